/- The contracts of single.length, inLine, Take, Put; the document's example. -/
import Derived.Test.YtfapjbklkfdnhaaDoorSgLeaf
namespace Go.Proofs.YtfapjbklkfdnhaaDoor
open Go.RowKit
set_option linter.unusedVariables false

set_option maxHeartbeats 2000000 in
theorem slength_any (A : Option Addr) (n c : Nat) (zs : List Int) (w : World) (hl : zs.length = n) (hnc : n ≤ c) (hm : c ≤ 9223372036854775807) (hn : n ≤ 1000000000) (hr : RdB w A zs) (v : Nat) (hv : tkN (takeS zs) = v) :
    Calls Tryd.prog 17 #[.slice A n c] w fun e w' => e = .returned (.int .i64 (v : Int)) ∧ Below w.heap.size w w' := by
  have HL := Lib.hid hl
  have HR := Lib.hid hr
  have HV := Lib.hid hv
  by_cases h0 : zs.getD 0 0 = 39
  · have hn0 : 0 < n := by
      rcases Nat.eq_zero_or_pos n with h | h
      · have : zs = [] := List.eq_nil_of_length_eq_zero (by omega)
        subst this; simp at h0
      · exact h
    have Q0 := Lib.hid (quoted_any A n c 0 0 rfl zs w hl hnc hm hr true (by rw [decide_eq_true hn0, h0]; rfl))
    have HT : Hid (tkN (tkAt zs [] 1) = v) := by
      show tkN (tkAt zs [] 1) = v
      rw [← hv, takeS, if_pos h0]
    clear hl hr hv h0 HV
    go_enter Tryd.func17, Tryd.ntmps17
    go_wp2_with (go_at_call 21; refine Q0.out.mono ?_; rintro e w1 ⟨rfl, hb1⟩; have HB1 := Lib.hid hb1; clear hb1 Q0)
    go_loopw [2, 3] (fun r i W => ∃ k : Nat, 1 ≤ k ∧ k ≤ n + 1 ∧ r = .int .i64 0 ∧ i = .int .i64 (k : Int) ∧ Hid ((∃ acc, tkN (tkAt zs acc k) = v) ∧ Below w.heap.size w W)) (fun _ i _ => n + 1 - (intOf i).toNat)
    case atStart => exact ⟨1, by omega, by omega, rfl, rfl, ⟨[], HT.out⟩, HB1.out⟩
    case round =>
      obtain ⟨k, hk1, hk, rfl, rfl, HK⟩ := hrel
      obtain ⟨W, hW⟩ : ∃ x, x = wr := ⟨_, rfl⟩
      subst hW
      obtain ⟨⟨acc, hacc⟩, hbel⟩ := HK.out
      have HB := Lib.hid hbel
      have HA := Lib.hid hacc
      clear hacc hbel HK
      by_cases hlt : k < n
      · have hrw := HR.out.below HB.out
        obtain ⟨b, off, rfl, hc⟩ := hrw.addr (by rw [HL.out]; omega)
        have c0 := hc k (by rw [HL.out]; omega)
        have HRW := Lib.hid hrw
        have d : (k : Int) < (n : Int) := by omega
        clear hrw hc
        have hkz : k < zs.length := by rw [HL.out]; exact hlt
        by_cases hz10 : zs.getD k 0 = 10
        · have hv : v = 0 := by rw [← HA.out, tkAt_brk zs acc k hkz (.inl hz10)]; rfl
          subst hv
          rw [hz10] at c0
          clear hz10 hkz
          go_wp2_with fail
          go_ret
          exact ⟨rfl, HB.out⟩
        by_cases hz13 : zs.getD k 0 = 13
        · have hv : v = 0 := by rw [← HA.out, tkAt_brk zs acc k hkz (.inr hz13)]; rfl
          subst hv
          rw [hz13] at c0
          clear hz10 hz13 hkz
          go_wp2_with fail
          go_ret
          exact ⟨rfl, HB.out⟩
        have e10 : (zs.getD k 0 == 10) = false := beq_eq_false_iff_ne.2 hz10
        have e13 : (zs.getD k 0 == 13) = false := beq_eq_false_iff_ne.2 hz13
        by_cases hz : zs.getD k 0 = 39
        · by_cases hz2 : k + 1 < n ∧ zs.getD (k + 1) 0 = 39
          · have HA2 : Hid (tkN (tkAt zs (acc ++ [39]) (k + 2)) = v) := by
              show tkN _ = v
              rw [← HA.out, tkAt_two zs acc k (by rw [HL.out]; omega) hz hz2.2]
            have Q1 : Hid (∀ V, Below w.heap.size w V → Calls Tryd.prog 21 #[.slice (some ⟨b, off, none⟩) n c, .int .i64 (k : Int)] V fun e w' => e = .returned (.bool true) ∧ Below V.heap.size V w') :=
              fun V hV => quoted_any _ n c k _ rfl zs V HL.out hnc hm (HR.out.below hV) true (by rw [decide_eq_true hlt, hz]; rfl)
            have Q2 : Hid (∀ V, Below w.heap.size w V → Calls Tryd.prog 21 #[.slice (some ⟨b, off, none⟩) n c, .int .i64 ((k : Int) + 1)] V fun e w' => e = .returned (.bool true) ∧ Below V.heap.size V w') :=
              fun V hV => quoted_any _ n c (k + 1) _ (by omega) zs V HL.out hnc hm (HR.out.below hV) true (by rw [decide_eq_true hz2.1, hz2.2]; rfl)
            have hk2 := hz2.1
            rw [hz] at c0
            clear e10 e13 hz hz2 hz10 hz13 hkz
            go_wp2_with fail
            refine (Q1.out W HB.out).mono ?_
            rintro e w2 ⟨rfl, hb2⟩
            have HB2 := Lib.hid (below_step HB.out hb2)
            clear hb2
            go_wp2_with fail
            refine (Q2.out w2 HB2.out).mono ?_
            rintro e w3 ⟨rfl, hb3⟩
            have HB3 := Lib.hid (below_step HB2.out hb3)
            clear hb3
            go_wp2_with fail
            refine (Q1.out w3 HB3.out).mono ?_
            rintro e w4 ⟨rfl, hb4⟩
            have HB4 := Lib.hid (below_step HB3.out hb4)
            clear hb4
            go_wp2_with fail
            go_roundw
            case rel => exact ⟨k + 2, by omega, by omega, rfl, by go_num, ⟨_, HA2.out⟩, HB4.out⟩
            case measure => simp [intOf]; omega
          · have hv : v = k + 1 := by
              rw [← HA.out, tkAt_end zs acc k hkz hz (by rw [HL.out]; exact hz2)]; rfl
            have Q1 : Hid (∀ V, Below w.heap.size w V → Calls Tryd.prog 21 #[.slice (some ⟨b, off, none⟩) n c, .int .i64 (k : Int)] V fun e w' => e = .returned (.bool true) ∧ Below V.heap.size V w') :=
              fun V hV => quoted_any _ n c k _ rfl zs V HL.out hnc hm (HR.out.below hV) true (by rw [decide_eq_true hlt, hz]; rfl)
            have Q2 : Hid (∀ V, Below w.heap.size w V → Calls Tryd.prog 21 #[.slice (some ⟨b, off, none⟩) n c, .int .i64 ((k : Int) + 1)] V fun e w' => e = .returned (.bool false) ∧ Below V.heap.size V w') :=
              fun V hV => quoted_any _ n c (k + 1) _ (by omega) zs V HL.out hnc hm (HR.out.below hV) false (by
                rw [Bool.eq_false_iff]
                intro h
                simp at h
                exact hz2 ⟨h.1, by simpa [List.getD] using h.2⟩)
            have HVV := Lib.hid hv
            rw [hz] at c0
            clear e10 e13 hz hz2 hz10 hz13 hkz hv
            go_wp2_with fail
            refine (Q1.out W HB.out).mono ?_
            rintro e w2 ⟨rfl, hb2⟩
            have HB2 := Lib.hid (below_step HB.out hb2)
            clear hb2
            go_wp2_with fail
            refine (Q2.out w2 HB2.out).mono ?_
            rintro e w3 ⟨rfl, hb3⟩
            have HB3 := Lib.hid (below_step HB2.out hb3)
            clear hb3
            go_wp2_with fail
            go_ret
            exact ⟨ret_int (by rw [HVV.out]; omega), HB3.out⟩
        · have HA2 : Hid (tkN (tkAt zs (acc ++ [zs.getD k 0]) (k + 1)) = v) := by
            show tkN _ = v
            rw [← HA.out, tkAt_ne zs acc k hkz hz10 hz13 hz]
          have Q1 : Hid (∀ V, Below w.heap.size w V → Calls Tryd.prog 21 #[.slice (some ⟨b, off, none⟩) n c, .int .i64 (k : Int)] V fun e w' => e = .returned (.bool false) ∧ Below V.heap.size V w') :=
            fun V hV => quoted_any _ n c k _ rfl zs V HL.out hnc hm (HR.out.below hV) false (by rw [beq_eq_false_iff_ne.2 hz]; simp)
          clear hz hz10 hz13 hkz
          generalize zs.getD k 0 = z at *
          go_wp2_with fail
          refine (Q1.out W HB.out).mono ?_
          rintro e w2 ⟨rfl, hb2⟩
          have HB2 := Lib.hid (below_step HB.out hb2)
          clear hb2
          go_wp2_with fail
          refine (Q1.out w2 HB2.out).mono ?_
          rintro e w3 ⟨rfl, hb3⟩
          have HB3 := Lib.hid (below_step HB2.out hb3)
          clear hb3
          go_wp2_with fail
          go_roundw
          case rel => exact ⟨k + 1, by omega, by omega, rfl, by go_num, ⟨_, HA2.out⟩, HB3.out⟩
          case measure => simp [intOf]; omega
      · have hv : v = 0 := by rw [← HA.out, tkAt_past zs acc k (by rw [HL.out]; omega)]; rfl
        subst hv
        have d : decide ((k : Int) < (n : Int)) = false := decide_eq_false (by omega)
        go_wp2_with fail
        go_ret
        exact ⟨rfl, HB.out⟩
  · have hv0 : v = 0 := by rw [← hv, takeS, if_neg h0]; rfl
    subst hv0
    have Q0 := Lib.hid (quoted_any A n c 0 0 rfl zs w hl hnc hm hr false (by rw [beq_eq_false_iff_ne.2 h0]; simp))
    clear hl hr hv h0 HV
    go_enter Tryd.func17, Tryd.ntmps17
    go_wp2_with (go_at_call 21; refine Q0.out.mono ?_; rintro e w1 ⟨rfl, hb1⟩; have HB1 := Lib.hid hb1; clear hb1 Q0)
    go_ret
    exact ⟨rfl, HB1.out⟩

set_option maxHeartbeats 2000000 in
theorem sinLine_any (A : Option Addr) (n c : Nat) (zs : List Int) (w : World) (hl : zs.length = n) (hnc : n ≤ c) (hm : c ≤ 9223372036854775807) (hb : Byte zs) (hr : RdB w A zs) (hA : A = none → c = 0) (v : Bool) (hv : inF true n zs = v) :
    Calls Tryd.prog 19 #[.slice A n c] w fun e w' => e = .returned (.bool v) ∧ w = w' := by
  have HV := Lib.hid hv
  have HL := Lib.hid hl
  have HY := Lib.hid hb
  have HR : Hid (RdB w A zs) := hr
  have HA := Lib.hid hA
  clear hv hl hb hr hA
  go_enter Tryd.func19, Tryd.ntmps19
  go_wp2
  go_loop [0, 2] (fun s r => ∃ (k m cc : Nat) (A' : Option Addr), k + m = n ∧ k + cc = c ∧ s = .slice A' m cc ∧ r = .bool false ∧ Hid (inF true n (zs.drop k) = v ∧ RdB w A' (zs.drop k) ∧ (A' = none → cc = 0))) (fun s _ => lenV s)
  case atStart => exact ⟨0, n, c, A, by omega, by omega, rfl, rfl, by simpa using HV.out, by simpa using HR.out, HA.out⟩
  case round =>
    obtain ⟨k, m, cc, A', hkm, hkc, rfl, rfl, HK⟩ := hrel
    have hmc : m ≤ cc := by omega
    have hcc : cc ≤ 9223372036854775807 := by omega
    have HKM := Lib.hid (And.intro hkm hkc)
    have hkn : k ≤ n := by omega
    clear hkm hkc
    by_cases h0 : 0 < m
    · have hd : (0 : Int) < (m : Int) := by omega
      obtain ⟨r, j, ok, hrf, hj1, hj2, hbad, hgood⟩ := in_round true n k zs HL.out (by have := HKM.out; omega)
      have hly : (zs.drop k).length = m := by have := HKM.out; rw [List.length_drop, HL.out]; omega
      have hjm : j ≤ m := by have := HKM.out; omega
      have CR := Lib.hid (rune_at A' m cc (zs.drop k) w r (j : Int) ok hly hmc hcc (HY.out.drop k) HK.out.2.1 hrf)
      obtain ⟨A2, hsl, hA2, hrd⟩ := slice_lI A' m cc j (j : Int) rfl (zs.drop k) hly hmc HK.out.2.2 hjm
      have hr2 := hrd w HK.out.2.1
      rw [List.drop_drop] at hr2
      rw [HK.out.1] at hbad hgood
      have HBAD := Lib.hid hbad
      have HGOOD := Lib.hid hgood
      have H2 := Lib.hid (And.intro hr2 hA2)
      clear hbad hgood hr2 hA2 hrd hrf hly HK
      rcases in_ways ok r with rfl | ⟨rfl, hp⟩ | ⟨rfl, hp, rfl⟩ | ⟨rfl, hp, rfl⟩ | ⟨rfl, hp, rfl⟩ | ⟨rfl, hp, h9, h10, h13⟩
      case inr.inr.inl =>
        have hf := HGOOD.out (by simp [hp])
        have HF := Lib.hid hf
        clear hf HGOOD HBAD
        go_wp2_with (first | (go_at_call 23; refine CR.out.mono ?_; rintro e w' ⟨rfl, rfl⟩) | (go_at_call 24; refine (prt_any _ _).mono ?_; rintro e w' ⟨rfl, rfl⟩))
        go_round
        case rel => exact ⟨k + j, m - j, cc - j, A2, by have := HKM.out; omega, by have := HKM.out; omega, rfl, rfl, HF.out.symm, H2.out.1, H2.out.2⟩
        case measure => simp [lenV]; omega
      case inr.inr.inr.inr.inr =>
        have hf := HGOOD.out (by simp [hp, h9, h10, h13])
        have HF := Lib.hid hf
        clear hf HGOOD HBAD
        go_wp2_with (first | (go_at_call 23; refine CR.out.mono ?_; rintro e w' ⟨rfl, rfl⟩) | (go_at_call 24; refine (prt_any _ _).mono ?_; rintro e w' ⟨rfl, rfl⟩))
        go_round
        case rel => exact ⟨k + j, m - j, cc - j, A2, by have := HKM.out; omega, by have := HKM.out; omega, rfl, rfl, HF.out.symm, H2.out.1, H2.out.2⟩
        case measure => simp [lenV]; omega
      all_goals
        have hf := HBAD.out (by simp [*])
        subst hf
        clear HGOOD HBAD hsl H2
        go_wp2_with (first | (go_at_call 23; refine CR.out.mono ?_; rintro e w' ⟨rfl, rfl⟩) | (go_at_call 24; refine (prt_any _ _).mono ?_; rintro e w' ⟨rfl, rfl⟩))
        go_ret
        exact ⟨rfl, rfl⟩
    · obtain rfl : m = 0 := by omega
      have hf : v = true := by
        rw [← HK.out.1, List.drop_of_length_le (by have := HKM.out; rw [HL.out]; omega)]; exact inF_nil _ _
      subst hf
      go_wp2
      go_ret
      exact ⟨rfl, rfl⟩

theorem run_slice_1 (A : Option Addr) (n c q : Nat) (zs : List Int) (hl : zs.length = n) (hnc : n ≤ c) (hA : A = none → c = 0) (h1 : 1 ≤ q) (h2 : q ≤ n) : ∃ A', 
    (∀ W, (Instr.slice 22 (.slice A n c) (some (.int .i64 1)) (some (.int .i64 (q : Int))) none).run Tryd.prog W = .ok (.slice A' (q - 1) (c - 1)) W) ∧
    ∀ W, RdB W A zs → RdB W A' ((zs.drop 1).take (q - 1)) := by
  obtain ⟨A', h, _, h3⟩ := slice_lh A n c 1 q zs hl hnc hA h1 h2
  exact ⟨A', h, h3⟩

def tupS (v : List Int) (n : Nat) (ok : Bool) : Value := .tuple #[.string (strOfNums v), .int .i64 (n : Int), .bool ok]
/-- Take's answers. -/
def TakeP (o : Option (List Int × Nat)) (w : World) (e : Ending) (w' : World) : Prop :=
  ∃ t : ByteArray, byt t = tkV o ∧ e = .returned (.tuple #[.string t, .int .i64 (tkN o : Int), .bool o.isSome]) ∧ Below w.heap.size w w'
set_option maxHeartbeats 2000000 in
theorem take_any (A : Option Addr) (n c : Nat) (zs : List Int) (w : World) (hl : zs.length = n) (hnc : n ≤ c) (hm : c ≤ 9223372036854775807) (hn : n ≤ 1000000000) (hb : Byte zs) (hr : RdB w A zs) (hA : A = none → c = 0) (hM : MaxL w) (o : Option (List Int × Nat)) (ho : takeS zs = o) :
    Calls Tryd.prog 9 #[.slice A n c] w (TakeP o w) := by
  have L := Lib.hid (slength_any A n c zs w hl hnc hm hn hr (tkN o) (by rw [ho]))
  cases o with
  | none =>
    clear hl hb hr ho hM
    go_enter Tryd.func9, Tryd.ntmps9
    go_wp2_with (go_at_call 17; refine L.out.mono ?_; rintro e w1 ⟨rfl, hb1⟩; have HB1 := Lib.hid hb1; clear hb1 L; simp only [tkN])
    go_ret3
    exact ⟨⟨#[]⟩, rfl, rfl, HB1.out⟩
  | some x =>
    obtain ⟨v, m⟩ := x
    obtain ⟨g1, g2, g3⟩ := takeS_sgl zs v m ho
    obtain ⟨q, rfl⟩ : ∃ q, m = q + 1 := ⟨m - 1, by omega⟩
    obtain ⟨A', hsl, hrd⟩ := run_slice_1 A n c q zs hl hnc hA (by omega) (by omega)
    rw [show q + 1 - 1 - 1 = q - 1 by omega] at g3
    have hy : Byte ((zs.drop 1).take (q - 1)) := (hb.drop 1).take _
    have hlen : ((zs.drop 1).take (q - 1)).length = q - 1 := by rw [List.length_take, List.length_drop]; omega
    have HR := Lib.hid hr
    have HM := Lib.hid hM
    have HRD := Lib.hid hrd
    have HG := Lib.hid g3
    have HY := Lib.hid hy
    have HLN := Lib.hid hlen
    have hq1 : 1 ≤ q := by omega
    have hqn : q + 1 ≤ n := by omega
    clear hl hb hr ho hM hrd g3 hy hlen g1 g2 hA
    generalize (zs.drop 1).take (q - 1) = ys at *
    have hst : (byt (strOfNums ys)) = ys := byt_strOfNums ys HY.out
    have hss : (strOfNums ys).size ≤ 1000000000 := by have := byt_len (strOfNums ys); rw [hst, HLN.out] at this; omega
    have hvb : byt (strOfNums v) = v := byt_strOfNums v (by rw [HG.out]; exact sgl_byte _ _ (Nat.le_refl _) HY.out)
    have HX : Hid (byt (strOfNums v) = sgl (byt (strOfNums ys))) := by show _ = _; rw [hst, hvb]; exact HG.out
    have HVB := Lib.hid hvb
    clear hst hvb
    go_enter Tryd.func9, Tryd.ntmps9
    go_wp2_with fail
    refine L.out.mono ?_
    rintro e w1 ⟨rfl, hb1⟩
    have HB1 := Lib.hid hb1
    clear hb1 L
    have hcv := run_string_rd w1 A' (q - 1) (c - 1) ys HLN.out (HRD.out w1 (HR.out.below HB1.out))
    simp only [tkN]
    rw [show ((q + 1 : Nat) : Int) = (q : Int) + 1 by omega]
    have d0 : ((q : Int) + 1 == 0) = false := beq_eq_false_iff_ne.2 (by omega)
    generalize strOfNums ys = y at *
    go_wp2_with fail
    refine (replace_sgl y w1 (HM.out.below HB1.out) hss _ HX.out).mono ?_
    rintro e w2 ⟨rfl, hb2⟩
    have HB2 := Lib.hid (below_step HB1.out hb2)
    clear hb2
    go_wp2_with fail
    go_ret3
    exact ⟨strOfNums v, HVB.out, rfl, HB2.out⟩
/-- Put's answers. -/
def PutP (s : List Int) (ok : Bool) (w : World) (e : Ending) (w' : World) : Prop :=
  ∃ t : ByteArray, byt t = (if ok = true then putF s else []) ∧ e = .returned (.tuple #[.string t, .bool ok]) ∧ Below w.heap.size w w'
set_option maxHeartbeats 2000000 in
theorem put_any (s : ByteArray) (w : World) (hs : s.size ≤ 1000000) (hM : MaxL w) (ok : Bool) (hok : inF true s.size (byt s) = ok) :
    Calls Tryd.prog 11 #[.string s] w (PutP (byt s) ok w) := by
  obtain ⟨cap, W, hby⟩ := bytes_of s (by omega) w
  obtain ⟨hrun, hle, hmax, hrd, hbel⟩ := hby
  have I := Lib.hid (sinLine_any (some ⟨w.heap.size, 0, none⟩) s.size cap (byt s) W (byt_len s) hle hmax (byt_byte s) hrd (fun h => by cases h) ok hok)
  have HB := Lib.hid hbel
  have HM := Lib.hid (hM.below hbel)
  obtain ⟨t, ht⟩ : ∃ t : ByteArray, byt t = dbl (byt s) := ⟨strOfNums (dbl (byt s)), byt_strOfNums _ (dbl_byte _ (byt_byte s))⟩
  have HT := Lib.hid ht
  have hts : t.size ≤ 2000000 := by
    have h1 := byt_len t
    have h2 := byt_len s
    have h3 : (byt s).count 39 ≤ (byt s).length := List.count_le_length
    rw [ht, dbl_len] at h1; omega
  clear hok hrd hbel hM ht
  cases ok
  · go_enter Tryd.func11, Tryd.ntmps11
    go_wp2_with (go_at_call 19; refine I.out.mono ?_; rintro e w' ⟨rfl, rfl⟩)
    go_ret2
    exact ⟨⟨#[]⟩, rfl, rfl, HB.out⟩
  · go_enter Tryd.func11, Tryd.ntmps11
    go_wp2_with fail
    refine I.out.mono ?_
    rintro e w' ⟨rfl, rfl⟩
    go_wp2_with fail
    refine (replace_dbl s W HM.out (by omega) t HT.out).mono ?_
    rintro e w2 ⟨rfl, hb2⟩
    have HB2 := Lib.hid (below_step HB.out hb2)
    clear hb2
    obtain ⟨p1, hp1⟩ : ∃ u, (⟨#[39]⟩ : ByteArray) ++ t = u := ⟨_, rfl⟩
    obtain ⟨p2, hp2⟩ : ∃ u, p1 ++ (⟨#[39]⟩ : ByteArray) = u := ⟨_, rfl⟩
    have HP2 : Hid (byt p2 = putF (byt s)) := by show byt p2 = _; rw [← hp2, byt_append, ← hp1, byt_append, HT.out]; rfl
    have hs1 : p1.size ≤ 2000001 := by rw [← hp1, ByteArray.size_append]; have : (⟨#[39]⟩ : ByteArray).size = 1 := rfl; omega
    go_wp2_with fail
    go_ret2
    exact ⟨p2, HP2.out, rfl, HB2.out⟩
set_option maxHeartbeats 1000000 in
theorem wakes_any (w : World) (hM : MaxL w) : Calls Tryd.prog 10 #[] w fun e w' => e = .returned (.bool true) ∧ Below w.heap.size w w' := by
  have hk : inF true 4 [105, 116, 39, 115] = true := by decide +kernel
  have P := Lib.hid (put_any ⟨#[105, 116, 39, 115]⟩ w (by decide) hM true hk)
  clear hk hM
  go_enter Tryd.func10, Tryd.ntmps10
  go_wp2_with fail
  refine P.out.mono ?_
  rintro e w1 ⟨t, ht, rfl, hb1⟩
  have HB1 := Lib.hid hb1
  have he : t = ⟨#[39, 105, 116, 39, 39, 115, 39]⟩ := byt_inj (by rw [ht]; decide +kernel)
  subst he
  clear hb1 ht P
  go_wp2_with fail
  go_ret
  exact ⟨rfl, HB1.out⟩
end Go.Proofs.YtfapjbklkfdnhaaDoor
