/- The contracts of Length, inLine, Valid. -/
import Derived.Test.YtdjpdcjljpmfnaaDoorPlMain
namespace Go.Proofs.YtdjpdcjljpmfnaaDoor
open Go.RowKit
set_option linter.unusedVariables false
set_option maxRecDepth 100000

set_option maxHeartbeats 2000000 in
theorem length_any (A : Option Addr) (n c : Nat) (zs : List Int) (fl : Bool) (w : World) (hl : zs.length = n) (hnc : n ≤ c) (hm : c ≤ 9223372036854775807) (hb : Byte zs) (hr : RdB w A zs) (v : Nat) (hv : lenF zs fl = v) :
    Calls Tryd.prog 26 #[.slice A n c, .bool fl] w fun e w' => e = .returned (.int .i64 (v : Int)) ∧ Below w.heap.size w w' := by
  have S := starts_any A n c zs fl w hl hnc hm hb hr _ rfl
  have HS := Lib.hid S
  have HV := Lib.hid hv
  clear S hv
  cases hs : startF zs fl
  · have hv : v = 0 := by rw [← HV.out, lenF_no hs]
    subst hv
    rw [hs] at HS
    clear hs hr hl hb
    go_enter Tryd.func26, Tryd.ntmps26
    go_wp2_with (go_at_call 47; refine HS.out.mono ?_; rintro e w' ⟨rfl, hb⟩; have HB := Lib.hid hb; clear hb)
    go_ret
    exact ⟨rfl, HB.out⟩
  · rw [hs] at HS
    have h0 := start_len hs
    rw [hl] at h0
    obtain ⟨b, off, rfl, hc⟩ := hr.addr (by omega)
    have HR := Lib.hid hr
    have HL := Lib.hid hl
    have HY := Lib.hid hb
    have HST := Lib.hid hs
    clear hs hr hl hb hc
    go_enter Tryd.func26, Tryd.ntmps26
    go_wp2_with (go_at_call 47; refine HS.out.mono ?_; rintro e w' ⟨rfl, hb⟩; have HB := Lib.hid hb; clear hb)
    have HRW := Lib.hid (HR.out.below HB.out)
    go_loop [5] (fun i => ∃ k : Nat, k ≤ n ∧ i = .int .i64 (k : Int) ∧ Hid (∀ i, i < k → endF zs fl i = false)) (fun i => n - (intOf i).toNat)
    case atStart => exact ⟨0, by omega, rfl, fun i hi => by omega⟩
    case round =>
      obtain ⟨k, hk, rfl, HK⟩ := hrel
      have fin : k = n ∨ endF zs fl k = true → v = trimF zs k := by
        intro h
        rw [← HV.out]
        exact lenF_at HST.out k (by rw [HL.out]; exact hk) HK.out (by rw [HL.out]; exact h)
      have FIN := Lib.hid fin
      clear fin
      by_cases hlt : k < n ∧ endF zs fl k = false
      · obtain ⟨hlt, hend⟩ := hlt
        have E := Lib.hid (ends_any _ n c k zs fl w' HL.out hnc hm HY.out HRW.out hlt _ hend)
        have hn : ∀ i, i < k + 1 → endF zs fl i = false := by
          intro i hi
          rcases Nat.lt_succ_iff_lt_or_eq.1 hi with h | h
          · exact HK.out i h
          · subst h; exact hend
        have HN := Lib.hid hn
        have d : (k : Int) < (n : Int) := by omega
        clear hn hend FIN
        go_wp2_with (go_at_call 48; refine E.out.mono ?_; rintro e w' ⟨rfl, rfl⟩)
        go_round
        case rel => exact ⟨k + 1, by omega, by go_num, HN⟩
        case measure => simp [intOf]; omega
      · have hv : v = trimF zs k := FIN.out (by
          by_cases h : k < n
          · right; cases he : endF zs fl k
            · exact absurd ⟨h, he⟩ hlt
            · rfl
          · left; omega)
        have HV2 := Lib.hid hv
        clear hv FIN HK
        by_cases h : k < n
        · have hend : endF zs fl k = true := by
            cases he : endF zs fl k
            · exact absurd ⟨h, he⟩ hlt
            · rfl
          have E := Lib.hid (ends_any _ n c k zs fl w' HL.out hnc hm HY.out HRW.out h _ hend)
          have d : (k : Int) < (n : Int) := by omega
          clear hend hlt
          go_wp2_with (go_at_call 48; refine E.out.mono ?_; rintro e w' ⟨rfl, rfl⟩)
          go_loop [5] (fun i => ∃ q : Nat, q ≤ n ∧ i = .int .i64 (q : Int) ∧ Hid (v = trimF zs q)) (fun i => (intOf i).toNat)
          case atStart => exact ⟨k, hk, rfl, HV2⟩
          case round =>
            clear d
            obtain ⟨q, hq, rfl, HQ⟩ := hrel
            by_cases h0 : 0 < q
            · obtain ⟨j, rfl⟩ : ∃ j, q = j + 1 := ⟨q - 1, by omega⟩
              obtain ⟨b', off', e', hc⟩ := HRW.out.addr (by rw [HL.out]; omega)
              injection e' with e'
              injection e' with e1 e2
              subst e1 e2
              have c0 := hc j (by rw [HL.out]; omega)
              clear hc
              rw [show ((j + 1 : Nat) : Int) = (j : Int) + 1 by omega]
              have d0 : (0 : Int) < (j : Int) + 1 := by omega
              have dj : (j : Int) < (n : Int) := by omega
              by_cases h32 : zs.getD j 0 = 32
              · have hv : v = trimF zs j := by rw [HQ.out, trimF_step zs j h32]
                have HV3 := Lib.hid hv
                rw [h32] at c0
                clear hv h32
                go_wp2_with (go_at_call 49; refine (space_any _ _).mono ?_; rintro e w' ⟨rfl, rfl⟩)
                go_round
                case rel => exact ⟨j, by omega, by go_num, HV3⟩
                case measure => simp [intOf]
              · have hv : v = j + 1 := by rw [HQ.out, trimF_stay zs j h32]
                have hsp : spc (zs.getD j 0) = false := beq_eq_false_iff_ne.2 h32
                have HV3 := Lib.hid hv
                clear hv h32
                generalize zs.getD j 0 = y at *
                go_wp2_with (go_at_call 49; refine (space_any _ _).mono ?_; rintro e w' ⟨rfl, rfl⟩)
                go_ret
                exact ⟨ret_int (by rw [HV3.out]; omega), HB.out⟩
            · obtain rfl : q = 0 := by omega
              have hv : v = 0 := HQ.out
              subst hv
              go_wp2_with fail
              go_ret
              exact ⟨rfl, HB.out⟩
        · have d : decide ((k : Int) < (n : Int)) = false := decide_eq_false (by omega)
          clear hlt
          go_wp2_with fail
          go_loop [5] (fun i => ∃ q : Nat, q ≤ n ∧ i = .int .i64 (q : Int) ∧ Hid (v = trimF zs q)) (fun i => (intOf i).toNat)
          case atStart => exact ⟨k, hk, rfl, HV2⟩
          case round =>
            clear d
            obtain ⟨q, hq, rfl, HQ⟩ := hrel
            by_cases h0 : 0 < q
            · obtain ⟨j, rfl⟩ : ∃ j, q = j + 1 := ⟨q - 1, by omega⟩
              obtain ⟨b', off', e', hc⟩ := HRW.out.addr (by rw [HL.out]; omega)
              injection e' with e'
              injection e' with e1 e2
              subst e1 e2
              have c0 := hc j (by rw [HL.out]; omega)
              clear hc
              rw [show ((j + 1 : Nat) : Int) = (j : Int) + 1 by omega]
              have d0 : (0 : Int) < (j : Int) + 1 := by omega
              have dj : (j : Int) < (n : Int) := by omega
              by_cases h32 : zs.getD j 0 = 32
              · have hv : v = trimF zs j := by rw [HQ.out, trimF_step zs j h32]
                have HV3 := Lib.hid hv
                rw [h32] at c0
                clear hv h32
                go_wp2_with (go_at_call 49; refine (space_any _ _).mono ?_; rintro e w' ⟨rfl, rfl⟩)
                go_round
                case rel => exact ⟨j, by omega, by go_num, HV3⟩
                case measure => simp [intOf]
              · have hv : v = j + 1 := by rw [HQ.out, trimF_stay zs j h32]
                have hsp : spc (zs.getD j 0) = false := beq_eq_false_iff_ne.2 h32
                have HV3 := Lib.hid hv
                clear hv h32
                generalize zs.getD j 0 = y at *
                go_wp2_with (go_at_call 49; refine (space_any _ _).mono ?_; rintro e w' ⟨rfl, rfl⟩)
                go_ret
                exact ⟨ret_int (by rw [HV3.out]; omega), HB.out⟩
            · obtain rfl : q = 0 := by omega
              have hv : v = 0 := HQ.out
              subst hv
              go_wp2_with fail
              go_ret
              exact ⟨rfl, HB.out⟩

set_option maxHeartbeats 2000000 in
theorem inLine_any (A : Option Addr) (n c : Nat) (zs : List Int) (w : World) (hl : zs.length = n) (hnc : n ≤ c) (hm : c ≤ 9223372036854775807) (hb : Byte zs) (hr : RdB w A zs) (hA : A = none → c = 0) (v : Bool) (hv : inF false n zs = v) :
    Calls Tryd.prog 25 #[.slice A n c] w fun e w' => e = .returned (.bool v) ∧ w = w' := by
  have HV := Lib.hid hv
  have HL := Lib.hid hl
  have HY := Lib.hid hb
  have HR : Hid (RdB w A zs) := hr
  have HA := Lib.hid hA
  clear hv hl hb hr hA
  go_enter Tryd.func25, Tryd.ntmps25
  go_wp2
  go_loop [0, 2] (fun s r => ∃ (k m cc : Nat) (A' : Option Addr), k + m = n ∧ k + cc = c ∧ s = .slice A' m cc ∧ r = .bool false ∧ Hid (inF false n (zs.drop k) = v ∧ RdB w A' (zs.drop k) ∧ (A' = none → cc = 0))) (fun s _ => lenV s)
  case atStart => exact ⟨0, n, c, A, by omega, by omega, rfl, rfl, by simpa using HV.out, by simpa using HR.out, HA.out⟩
  case round =>
    obtain ⟨k, m, cc, A', hkm, hkc, rfl, rfl, HK⟩ := hrel
    have hmc : m ≤ cc := by omega
    have hcc : cc ≤ 9223372036854775807 := by omega
    have HKM := Lib.hid (And.intro hkm hkc)
    have hkn : k ≤ n := by omega
    clear hkm hkc
    by_cases h0 : 0 < m
    · have hd : (0 : Int) < (m : Int) := by omega
      obtain ⟨r, j, ok, hrf, hj1, hj2, hbad, hgood⟩ := in_round false n k zs HL.out (by have := HKM.out; omega)
      have hly : (zs.drop k).length = m := by have := HKM.out; rw [List.length_drop, HL.out]; omega
      have hjm : j ≤ m := by have := HKM.out; omega
      have CR := Lib.hid (rune_at A' m cc (zs.drop k) w r (j : Int) ok hly hmc hcc (HY.out.drop k) HK.out.2.1 hrf)
      obtain ⟨A2, hsl, hA2, hrd⟩ := slice_lI A' m cc j (j : Int) rfl (zs.drop k) hly hmc HK.out.2.2 hjm
      have hr2 := hrd w HK.out.2.1
      rw [List.drop_drop] at hr2
      rw [HK.out.1] at hbad hgood
      have HBAD := Lib.hid hbad
      have HGOOD := Lib.hid hgood
      have H2 := Lib.hid (And.intro hr2 hA2)
      clear hbad hgood hr2 hA2 hrd hrf hly HK
      rcases in_ways ok r with rfl | ⟨rfl, hp⟩ | ⟨rfl, hp, rfl⟩ | ⟨rfl, hp, rfl⟩ | ⟨rfl, hp, rfl⟩ | ⟨rfl, hp, h9, h10, h13⟩
      case inr.inr.inr.inr.inr =>
        have hf := HGOOD.out (by simp [hp, h9, h10, h13])
        have HF := Lib.hid hf
        clear hf HGOOD HBAD
        go_wp2_with (first | (go_at_call 23; refine CR.out.mono ?_; rintro e w' ⟨rfl, rfl⟩) | (go_at_call 45; refine (prt_any _ _).mono ?_; rintro e w' ⟨rfl, rfl⟩))
        go_round
        case rel => exact ⟨k + j, m - j, cc - j, A2, by have := HKM.out; omega, by have := HKM.out; omega, rfl, rfl, HF.out.symm, H2.out.1, H2.out.2⟩
        case measure => simp [lenV]; omega
      all_goals
        have hf := HBAD.out (by simp [*])
        subst hf
        clear HGOOD HBAD hsl H2
        go_wp2_with (first | (go_at_call 23; refine CR.out.mono ?_; rintro e w' ⟨rfl, rfl⟩) | (go_at_call 45; refine (prt_any _ _).mono ?_; rintro e w' ⟨rfl, rfl⟩))
        go_ret
        exact ⟨rfl, rfl⟩
    · obtain rfl : m = 0 := by omega
      have hf : v = true := by
        rw [← HK.out.1, List.drop_of_length_le (by have := HKM.out; rw [HL.out]; omega)]; exact inF_nil _ _
      subst hf
      go_wp2
      go_ret
      exact ⟨rfl, rfl⟩

set_option maxHeartbeats 2000000 in
theorem valid_any (s : ByteArray) (fl : Bool) (w : World) (hs : s.size ≤ 1000000) (v : Bool) (hv : validF (byt s) fl = v) :
    Calls Tryd.prog 16 #[.string s, .bool fl] w fun e w' => e = .returned (.bool v) ∧ Below w.heap.size w w' := by
  obtain ⟨cap, W, hby⟩ := bytes_of s (by omega) w
  obtain ⟨hrun, hle, hmax, hrd, hbel⟩ := hby
  have hn : (byt s).length = s.size := byt_len s
  unfold validF at hv
  rw [hn] at hv
  have I := inLine_any (some ⟨w.heap.size, 0, none⟩) s.size cap (byt s) W hn hle hmax (byt_byte s) hrd (fun h => by cases h) _ rfl
  have L := length_any (some ⟨w.heap.size, 0, none⟩) s.size cap (byt s) fl W hn hle hmax (byt_byte s) hrd _ rfl
  have HI := Lib.hid I
  have HLN := Lib.hid L
  have HV := Lib.hid hv
  have HB := Lib.hid hbel
  clear hv I L hrd hbel hn
  generalize inF false s.size (byt s) = vi at *
  generalize lenF (byt s) fl = vl at *
  generalize s.size = n at *
  by_cases h0 : 0 < n
  · have d : (0 : Int) < (n : Int) := by omega
    cases vi
    · have hf : v = false := by rw [← HV.out]; simp
      subst hf
      go_enter Tryd.func16, Tryd.ntmps16
      go_wp2_with (first | (go_at_call 25; refine HI.out.mono ?_; rintro e w' ⟨rfl, rfl⟩))
      go_ret
      exact ⟨rfl, HB.out⟩
    · have hf : v = ((vl : Int) == (n : Int)) := by
        rw [← HV.out, decide_eq_true h0]
        apply bool_iff
        simp
        omega
      have HF := Lib.hid hf
      clear hf
      go_enter Tryd.func16, Tryd.ntmps16
      go_wp2_with (first | (go_at_call 25; refine HI.out.mono ?_; rintro e w' ⟨rfl, rfl⟩) | (go_at_call 26; refine HLN.out.mono ?_; rintro e w' ⟨rfl, hb⟩; have HB2 := Lib.hid hb; clear hb))
      go_ret
      exact ⟨ret_bool HF.out.symm, below_step HB.out HB2.out⟩
  · have d : decide ((0 : Int) < (n : Int)) = false := decide_eq_false (by omega)
    have hf : v = false := by rw [← HV.out, decide_eq_false h0]; rfl
    subst hf
    go_enter Tryd.func16, Tryd.ntmps16
    go_wp2
    go_ret
    exact ⟨rfl, HB.out⟩
end Go.Proofs.YtdjpdcjljpmfnaaDoor
