/- The document's Float and Resolve. -/
import Derived.Test.YtdjpdcjljpmfnaaDoorScRef2
namespace Go.Proofs.YtdjpdcjljpmfnaaDoor
open Go.RowKit
set_option linter.unusedVariables false

theorem trmF_twice (cs l : List UInt8) : trmF cs (trmF cs l) = trmF cs l := by
  induction l with
  | nil => rfl
  | cons c t ih =>
    rw [trmF_cons]
    cases h : cs.contains c with
    | true => rw [if_pos rfl]; exact ih
    | false => rw [if_neg (by simp), trmF_cons, h, if_neg (by simp)]
theorem frac_pt (t : List UInt8) (h : t[digN tenD t]? = some 46) (k : Nat) (hk : digN tenD (t.drop (digN tenD t + 1)) = k) :
    fracB t = (decide (0 < digN tenD t) || decide (0 < k)) ∧ fracR t = t.drop (digN tenD t + 1 + k) := by
  subst hk
  have hd := digN_drop tenD t
  have hl := digN_le tenD t
  generalize digN tenD t = n at *
  have hw : trmF tenD t = 46 :: t.drop (n + 1) := by
    rw [← hd, List.drop_eq_getElem?_toList_append, h]; rfl
  have hp : ptF t = t.drop (n + 1) := by
    rw [ptF, hw]; rfl
  have hr : fracR t = t.drop (n + 1 + digN tenD (t.drop (n + 1))) := by
    rw [fracR, hp, ← digN_drop, List.drop_drop]
  refine ⟨?_, hr⟩
  have h2 := digN_le tenD (t.drop (n + 1))
  rw [fracB, fracR, hp]
  congr 1
  · exact decide_eq_decide.2 (by omega)
  · exact decide_eq_decide.2 (by omega)
theorem frac_no (t : List UInt8) (h : t[digN tenD t]? ≠ some 46) : fracB t = decide (0 < digN tenD t) ∧ fracR t = t.drop (digN tenD t) := by
  have hd := digN_drop tenD t
  have hl := digN_le tenD t
  have hp : ptF t = trmF tenD t := by
    rw [ptF, Lib.trimPrefix, if_neg]
    intro hc
    apply h
    rw [← hd] at hc
    cases hw : t.drop (digN tenD t) with
    | nil => rw [hw] at hc; cases hc
    | cons c q =>
      rw [hw] at hc
      simp only [Lib.hasPrefix, List.isPrefixOf, Bool.and_true, beq_iff_eq] at hc
      have := congrArg (fun l => l[0]?) hw
      simp only [List.getElem?_drop, Nat.add_zero, List.getElem?_cons_zero] at this
      rw [this, ← hc]
  have hr : fracR t = t.drop (digN tenD t) := by rw [fracR, hp, trmF_twice, hd]
  refine ⟨?_, hr⟩
  rw [fracB, hr, hp, hd, decide_eq_false (Nat.lt_irrefl _), Bool.or_false]
  exact decide_eq_decide.2 (by omega)
theorem exp_of (t : List UInt8) (m : Nat) (x : UInt8) (h : t[m]? = some x) : (t.drop m).isEmpty = false ∧ expF (t.drop m) = ((x == 101 || x == 69) && allF tenD (unsF (t.drop (m + 1)))) := by
  have : t.drop m = x :: t.drop (m + 1) := by rw [List.drop_eq_getElem?_toList_append, h]; rfl
  rw [this]
  exact ⟨rfl, rfl⟩
theorem str_ix (s : ByteArray) (k : Nat) (h : k < s.size) : ∃ x : UInt8, s.toList[k]? = some x ∧ ∀ V, (Instr.index 9 (.string s) (.int .i64 (k : Int))).run Tryd.prog V = .ok (.int .u8 (x.toNat : Int)) V := by
  refine ⟨s[k], list_at s k h, fun V => ?_⟩
  rw [run_index_string V 9 s .i64 _ Tryd.underlying9, dif_pos (by omega)]
  simp
theorem str_from (s : ByteArray) (k : Nat) (h : k ≤ s.size) : ∃ u : ByteArray, s.extract k s.size = u ∧ u.toList = s.toList.drop k ∧ u.size ≤ s.size := by
  refine ⟨_, rfl, ?_, ?_⟩
  · rw [list_extract, List.take_of_length_le (by rw [List.length_drop, list_len]; omega)]
  · simp [ByteArray.size_extract]

set_option maxHeartbeats 4000000 in
set_option maxRecDepth 100000 in
theorem rflo_at {w W : World} (hb : Below w.heap.size w W) (s : ByteArray) (hs : s.size ≤ 1000000) (r : Bool) (hr : floF s.toList = r) : Calls Tryd.prog 36 #[.string s] W (BoolP r w) := by
  have HB := Lib.hid hb
  have HR := Lib.hid hr
  have HB1 : Hid (Below w.heap.size w (W.alloc (.cells (ncs nanL) 9))) := hb.alloc hb.size _
  have HC := Lib.hid (ncs_new W nanL 9)
  obtain ⟨bn, hbn⟩ : ∃ bn, nanF s.toList = bn := ⟨_, rfl⟩
  have HN := Lib.hid hbn
  clear hb hr hbn
  go_enter Tryd.func36, Tryd.ntmps36
  go_wp2_with fail
  refine (one_at HB1.out s nanL W.heap.size 3 3 rfl (by omega) (by omega) HC.out bn (by rw [nan_one]; exact HN.out)).mono ?_
  rintro e w1 ⟨rfl, hb1⟩
  have HB2 := Lib.hid hb1
  clear hb1 HB1 HC HB
  cases bn with
  | true =>
    have : r = true := by rw [← HR.out, floF, HN.out]; rfl
    subst this
    go_wp2_with fail
    go_ret
    exact ⟨rfl, HB2.out⟩
  | false =>
    go_wp2_with fail
    refine (rsign_at HB2.out s).mono ?_
    rintro e w2 ⟨t, ht, rfl, hb2⟩
    have HB3 := Lib.hid hb2
    have hts : t.size ≤ 1000000 := by have := unsF_len s.toList; rw [← ht, list_len, list_len] at this; omega
    have HR2 : Hid ((infF t.toList || (fracB t.toList && ((fracR t.toList).isEmpty || expF (fracR t.toList)))) = r) := by
      show _ = _; rw [ht, ← HR.out, floF, HN.out, Bool.false_or]
    clear hb2 ht HR HN HB2
    have HB4 : Hid (Below w.heap.size w (w2.alloc (.cells (ncs infL) 9))) := HB3.out.alloc HB3.out.size _
    have HC2 := Lib.hid (ncs_new w2 infL 9)
    obtain ⟨bi, hbi⟩ : ∃ bi, infF t.toList = bi := ⟨_, rfl⟩
    have HI := Lib.hid hbi
    clear hbi HB3
    go_wp2_with fail
    refine (one_at HB4.out t infL w2.heap.size 3 3 rfl (by omega) (by omega) HC2.out bi (by rw [inf_one]; exact HI.out)).mono ?_
    rintro e w3 ⟨rfl, hb3⟩
    have HB5 := Lib.hid hb3
    clear hb3 HB4 HC2
    cases bi with
    | true =>
      have : r = true := by rw [← HR2.out, HI.out]; rfl
      subst this
      go_wp2_with fail
      go_ret
      exact ⟨rfl, HB5.out⟩
    | false =>
      obtain ⟨n, hn⟩ : ∃ n, digN tenD t.toList = n := ⟨_, rfl⟩
      have hnl : n ≤ t.size := by have := digN_le tenD t.toList; rw [hn, list_len] at this; omega
      have HN := Lib.hid hn
      have HR3 : Hid ((fracB t.toList && ((fracR t.toList).isEmpty || expF (fracR t.toList))) = r) := by
        show _ = _; rw [← HR2.out, HI.out, Bool.false_or]
      clear HR2 HI hn
      go_wp2_with fail
      refine (rdig_at HB5.out t hts 10 tenD (.inr (.inl ⟨rfl, rfl⟩)) n HN.out).mono ?_
      rintro e w4 ⟨rfl, hb4⟩
      have HB6 := Lib.hid hb4
      clear hb4 HB5
      by_cases hlt : n < t.size
      · obtain ⟨x, hx, hix⟩ := str_ix t n hlt
        have e0 := u8_eq x 46
        simp only [show (((46 : UInt8).toNat : Nat) : Int) = 46 from rfl] at e0
        have dlt : (n : Int) < (t.size : Int) := by omega
        by_cases hx46 : x = 46
        · have e0' : ((x.toNat : Int) == 46) = true := by rw [e0]; exact beq_iff_eq.2 hx46
          obtain ⟨q, hqe, hq, hqs⟩ := str_from t (n + 1) (by omega)
          obtain ⟨k, hk⟩ : ∃ k, digN tenD q.toList = k := ⟨_, rfl⟩
          have hfp := frac_pt t.toList (by rw [HN.out, hx, hx46]) k (by rw [HN.out, ← hq]; exact hk)
          rw [HN.out] at hfp
          have hkl : n + 1 + k ≤ t.size := by
            have := digN_le tenD q.toList
            rw [hk, hq, List.length_drop, list_len] at this
            omega
          have HK := Lib.hid hk
          have HF := Lib.hid hfp
          clear hk hfp hx hq e0 hx46
          generalize (x.toNat : Int) = xc at *
          go_wp2_with fail
          refine (rdig_at HB6.out q (by omega) 10 tenD (.inr (.inl ⟨rfl, rfl⟩)) k HK.out).mono ?_
          rintro e w5 ⟨rfl, hb5⟩
          have HBX := Lib.hid hb5
          clear hb5 HB6
          by_cases hz : n = 0 ∧ k = 0
          · obtain ⟨rfl, rfl⟩ := hz
            have : r = false := by rw [← HR3.out, HF.out.1]; rfl
            subst this
            go_wp2_with fail
            go_ret
            exact ⟨rfl, HBX.out⟩
          · have HF2 : Hid (((t.toList.drop (n + 1 + k)).isEmpty || expF (t.toList.drop (n + 1 + k))) = r) := by
              show _ = _
              rw [← HR3.out, HF.out.1, HF.out.2, show (decide (0 < n) || decide (0 < k)) = true by simp; omega, Bool.true_and]
            have hz' : ((n : Int) == 0) = false ∨ (((n : Int) == 0) = true ∧ ((k : Int) == 0) = false) := by
              by_cases h0 : n = 0
              · right; exact ⟨beq_iff_eq.2 (by omega), beq_eq_false_iff_ne.2 (by omega)⟩
              · left; exact beq_eq_false_iff_ne.2 (by omega)
            clear HF HR3 hz
            obtain ⟨m, hm⟩ : ∃ m, n + 1 + k = m := ⟨_, rfl⟩
            rw [hm] at HF2 hkl
            have hmi : (n : Int) + 1 + (k : Int) = (m : Int) := by omega
            have HF := HF2
            clear HF2 hm
            rcases hz' with hz1 | ⟨hz1, hz2⟩
            · by_cases hme : m = t.size
              · subst hme
                have : r = true := by rw [← HF.out, List.drop_eq_nil_of_le (by rw [list_len]; omega)]; rfl
                subst this
                clear HF
                go_wp2_with fail
                go_ret
                exact ⟨rfl, HBX.out⟩
              · have hmne : ((m : Int) == (t.size : Int)) = false := beq_eq_false_iff_ne.2 (by omega)
                obtain ⟨y, hy, hiy⟩ := str_ix t m (by omega)
                obtain ⟨u, hue, hu, hus⟩ := str_from t (m + 1) (by omega)
                have hex := exp_of t.toList m y hy
                have HG : Hid (((y == 101 || y == 69) && allF tenD (unsF u.toList)) = r) := by
                  show _ = _
                  rw [hu, ← hex.2, ← HF.out, hex.1, Bool.false_or]
                have e1 := u8_ne y 101
                have e2 := u8_ne y 69
                simp only [show (((101 : UInt8).toNat : Nat) : Int) = 101 from rfl] at e1
                simp only [show (((69 : UInt8).toNat : Nat) : Int) = 69 from rfl] at e2
                clear hex hy hu HF
                by_cases hyy : y = 101 ∨ y = 69
                · have HG2 : Hid (allF tenD (unsF u.toList) = r) := by
                    show _ = _
                    rw [← HG.out, show (y == 101 || y == 69) = true by simpa using hyy, Bool.true_and]
                  clear HG
                  have hpick : (((y.toNat : Int) != 101) = false) ∨ (((y.toNat : Int) != 101) = true ∧ ((y.toNat : Int) != 69) = false) := by
                    rw [e1, e2]
                    rcases hyy with h | h
                    · left; rw [h]; rfl
                    · right; rw [h]; exact ⟨rfl, rfl⟩
                  clear e1 e2 hyy
                  generalize (y.toNat : Int) = yc at *
                  rcases hpick with e1 | ⟨e1, e2⟩
                  · go_wp2_with fail
                    refine (rsign_at HBX.out u).mono ?_
                    rintro e v1 ⟨x, hx, rfl, hbv1⟩
                    have HV1 := Lib.hid hbv1
                    have hxs : x.size ≤ 1000000 := by have := unsF_len u.toList; rw [← hx, list_len, list_len] at this; omega
                    have HG3 : Hid (allF tenD x.toList = r) := by show _ = _; rw [hx]; exact HG2.out
                    clear hbv1 hx HG2
                    cases hxe : x.toList.isEmpty with
                    | true =>
                      have : r = false := by rw [← HG3.out, allF, hxe]; rfl
                      subst this
                      clear HG3
                      go_wp2_with fail
                      go_ret
                      exact ⟨rfl, HV1.out⟩
                    | false =>
                      have HG4 : Hid (r = decide (digN tenD x.toList = x.size)) := by show _ = _; rw [← HG3.out, allF_dig, hxe, list_len]; rfl
                      clear HG3
                      go_wp2_with fail
                      refine (rdig_at HV1.out x hxs 10 tenD (.inr (.inl ⟨rfl, rfl⟩)) _ rfl).mono ?_
                      rintro e v2 ⟨rfl, hbv2⟩
                      have HV2 := Lib.hid hbv2
                      clear hbv2
                      go_wp2_with fail
                      go_ret
                      exact ⟨ret_bool (by rw [HG4.out]; apply bool_iff; simp; omega), HV2.out⟩
                  · go_wp2_with fail
                    refine (rsign_at HBX.out u).mono ?_
                    rintro e v1 ⟨x, hx, rfl, hbv1⟩
                    have HV1 := Lib.hid hbv1
                    have hxs : x.size ≤ 1000000 := by have := unsF_len u.toList; rw [← hx, list_len, list_len] at this; omega
                    have HG3 : Hid (allF tenD x.toList = r) := by show _ = _; rw [hx]; exact HG2.out
                    clear hbv1 hx HG2
                    cases hxe : x.toList.isEmpty with
                    | true =>
                      have : r = false := by rw [← HG3.out, allF, hxe]; rfl
                      subst this
                      clear HG3
                      go_wp2_with fail
                      go_ret
                      exact ⟨rfl, HV1.out⟩
                    | false =>
                      have HG4 : Hid (r = decide (digN tenD x.toList = x.size)) := by show _ = _; rw [← HG3.out, allF_dig, hxe, list_len]; rfl
                      clear HG3
                      go_wp2_with fail
                      refine (rdig_at HV1.out x hxs 10 tenD (.inr (.inl ⟨rfl, rfl⟩)) _ rfl).mono ?_
                      rintro e v2 ⟨rfl, hbv2⟩
                      have HV2 := Lib.hid hbv2
                      clear hbv2
                      go_wp2_with fail
                      go_ret
                      exact ⟨ret_bool (by rw [HG4.out]; apply bool_iff; simp; omega), HV2.out⟩
                · have : r = false := by rw [← HG.out, show (y == 101 || y == 69) = false by simpa using hyy]; rfl
                  subst this
                  have e1' : ((y.toNat : Int) != 101) = true := by rw [e1, beq_eq_false_iff_ne.2 (fun h => hyy (.inl h))]; rfl
                  have e2' : ((y.toNat : Int) != 69) = true := by rw [e2, beq_eq_false_iff_ne.2 (fun h => hyy (.inr h))]; rfl
                  clear e1 e2 hyy HG
                  generalize (y.toNat : Int) = yc at *
                  go_wp2_with fail
                  go_ret
                  exact ⟨rfl, HBX.out⟩
            · by_cases hme : m = t.size
              · subst hme
                have : r = true := by rw [← HF.out, List.drop_eq_nil_of_le (by rw [list_len]; omega)]; rfl
                subst this
                clear HF
                go_wp2_with fail
                go_ret
                exact ⟨rfl, HBX.out⟩
              · have hmne : ((m : Int) == (t.size : Int)) = false := beq_eq_false_iff_ne.2 (by omega)
                obtain ⟨y, hy, hiy⟩ := str_ix t m (by omega)
                obtain ⟨u, hue, hu, hus⟩ := str_from t (m + 1) (by omega)
                have hex := exp_of t.toList m y hy
                have HG : Hid (((y == 101 || y == 69) && allF tenD (unsF u.toList)) = r) := by
                  show _ = _
                  rw [hu, ← hex.2, ← HF.out, hex.1, Bool.false_or]
                have e1 := u8_ne y 101
                have e2 := u8_ne y 69
                simp only [show (((101 : UInt8).toNat : Nat) : Int) = 101 from rfl] at e1
                simp only [show (((69 : UInt8).toNat : Nat) : Int) = 69 from rfl] at e2
                clear hex hy hu HF
                by_cases hyy : y = 101 ∨ y = 69
                · have HG2 : Hid (allF tenD (unsF u.toList) = r) := by
                    show _ = _
                    rw [← HG.out, show (y == 101 || y == 69) = true by simpa using hyy, Bool.true_and]
                  clear HG
                  have hpick : (((y.toNat : Int) != 101) = false) ∨ (((y.toNat : Int) != 101) = true ∧ ((y.toNat : Int) != 69) = false) := by
                    rw [e1, e2]
                    rcases hyy with h | h
                    · left; rw [h]; rfl
                    · right; rw [h]; exact ⟨rfl, rfl⟩
                  clear e1 e2 hyy
                  generalize (y.toNat : Int) = yc at *
                  rcases hpick with e1 | ⟨e1, e2⟩
                  · go_wp2_with fail
                    refine (rsign_at HBX.out u).mono ?_
                    rintro e v1 ⟨x, hx, rfl, hbv1⟩
                    have HV1 := Lib.hid hbv1
                    have hxs : x.size ≤ 1000000 := by have := unsF_len u.toList; rw [← hx, list_len, list_len] at this; omega
                    have HG3 : Hid (allF tenD x.toList = r) := by show _ = _; rw [hx]; exact HG2.out
                    clear hbv1 hx HG2
                    cases hxe : x.toList.isEmpty with
                    | true =>
                      have : r = false := by rw [← HG3.out, allF, hxe]; rfl
                      subst this
                      clear HG3
                      go_wp2_with fail
                      go_ret
                      exact ⟨rfl, HV1.out⟩
                    | false =>
                      have HG4 : Hid (r = decide (digN tenD x.toList = x.size)) := by show _ = _; rw [← HG3.out, allF_dig, hxe, list_len]; rfl
                      clear HG3
                      go_wp2_with fail
                      refine (rdig_at HV1.out x hxs 10 tenD (.inr (.inl ⟨rfl, rfl⟩)) _ rfl).mono ?_
                      rintro e v2 ⟨rfl, hbv2⟩
                      have HV2 := Lib.hid hbv2
                      clear hbv2
                      go_wp2_with fail
                      go_ret
                      exact ⟨ret_bool (by rw [HG4.out]; apply bool_iff; simp; omega), HV2.out⟩
                  · go_wp2_with fail
                    refine (rsign_at HBX.out u).mono ?_
                    rintro e v1 ⟨x, hx, rfl, hbv1⟩
                    have HV1 := Lib.hid hbv1
                    have hxs : x.size ≤ 1000000 := by have := unsF_len u.toList; rw [← hx, list_len, list_len] at this; omega
                    have HG3 : Hid (allF tenD x.toList = r) := by show _ = _; rw [hx]; exact HG2.out
                    clear hbv1 hx HG2
                    cases hxe : x.toList.isEmpty with
                    | true =>
                      have : r = false := by rw [← HG3.out, allF, hxe]; rfl
                      subst this
                      clear HG3
                      go_wp2_with fail
                      go_ret
                      exact ⟨rfl, HV1.out⟩
                    | false =>
                      have HG4 : Hid (r = decide (digN tenD x.toList = x.size)) := by show _ = _; rw [← HG3.out, allF_dig, hxe, list_len]; rfl
                      clear HG3
                      go_wp2_with fail
                      refine (rdig_at HV1.out x hxs 10 tenD (.inr (.inl ⟨rfl, rfl⟩)) _ rfl).mono ?_
                      rintro e v2 ⟨rfl, hbv2⟩
                      have HV2 := Lib.hid hbv2
                      clear hbv2
                      go_wp2_with fail
                      go_ret
                      exact ⟨ret_bool (by rw [HG4.out]; apply bool_iff; simp; omega), HV2.out⟩
                · have : r = false := by rw [← HG.out, show (y == 101 || y == 69) = false by simpa using hyy]; rfl
                  subst this
                  have e1' : ((y.toNat : Int) != 101) = true := by rw [e1, beq_eq_false_iff_ne.2 (fun h => hyy (.inl h))]; rfl
                  have e2' : ((y.toNat : Int) != 69) = true := by rw [e2, beq_eq_false_iff_ne.2 (fun h => hyy (.inr h))]; rfl
                  clear e1 e2 hyy HG
                  generalize (y.toNat : Int) = yc at *
                  go_wp2_with fail
                  go_ret
                  exact ⟨rfl, HBX.out⟩
        · have e0' : ((x.toNat : Int) == 46) = false := by rw [e0]; exact beq_eq_false_iff_ne.2 hx46
          have hfn := frac_no t.toList (by rw [HN.out, hx]; intro h; injection h with h; exact hx46 h)
          rw [HN.out] at hfn
          have HFN := Lib.hid hfn
          have HBX := HB6
          have HXA := Lib.hid hx
          clear hfn hx e0 hx46 HB6
          by_cases hz : n = 0
          · have : r = false := by rw [← HR3.out, HFN.out.1, hz]; rfl
            subst this
            obtain rfl : n = 0 := hz
            simp only [show ((0 : Nat) : Int) = 0 from rfl] at hix dlt
            clear HFN HR3
            go_wp2_with fail
            go_ret
            exact ⟨rfl, HBX.out⟩
          · have hz' : ((n : Int) == 0) = false := beq_eq_false_iff_ne.2 (by omega)
            have HF : Hid (((t.toList.drop n).isEmpty || expF (t.toList.drop n)) = r) := by
              show _ = _
              rw [← HR3.out, HFN.out.1, HFN.out.2, decide_eq_true (by omega), Bool.true_and]
            clear HFN HR3
            obtain ⟨m, rfl⟩ : ∃ m, m = n := ⟨_, rfl⟩
            by_cases hme : m = t.size
            · subst hme
              have : r = true := by rw [← HF.out, List.drop_eq_nil_of_le (by rw [list_len]; omega)]; rfl
              subst this
              clear HF
              go_wp2_with fail
              go_ret
              exact ⟨rfl, HBX.out⟩
            · have hmne : ((m : Int) == (t.size : Int)) = false := beq_eq_false_iff_ne.2 (by omega)
              obtain ⟨y, rfl⟩ : ∃ y, y = x := ⟨_, rfl⟩
              have hy := HXA.out
              obtain ⟨u, hue, hu, hus⟩ := str_from t (m + 1) (by omega)
              have hex := exp_of t.toList m y hy
              have HG : Hid (((y == 101 || y == 69) && allF tenD (unsF u.toList)) = r) := by
                show _ = _
                rw [hu, ← hex.2, ← HF.out, hex.1, Bool.false_or]
              have e1 := u8_ne y 101
              have e2 := u8_ne y 69
              simp only [show (((101 : UInt8).toNat : Nat) : Int) = 101 from rfl] at e1
              simp only [show (((69 : UInt8).toNat : Nat) : Int) = 69 from rfl] at e2
              clear hex hy hu HF
              by_cases hyy : y = 101 ∨ y = 69
              · have HG2 : Hid (allF tenD (unsF u.toList) = r) := by
                  show _ = _
                  rw [← HG.out, show (y == 101 || y == 69) = true by simpa using hyy, Bool.true_and]
                clear HG
                have hpick : (((y.toNat : Int) != 101) = false) ∨ (((y.toNat : Int) != 101) = true ∧ ((y.toNat : Int) != 69) = false) := by
                  rw [e1, e2]
                  rcases hyy with h | h
                  · left; rw [h]; rfl
                  · right; rw [h]; exact ⟨rfl, rfl⟩
                clear e1 e2 hyy
                generalize (y.toNat : Int) = yc at *
                rcases hpick with e1 | ⟨e1, e2⟩
                · go_wp2_with fail
                  refine (rsign_at HBX.out u).mono ?_
                  rintro e v1 ⟨x, hx, rfl, hbv1⟩
                  have HV1 := Lib.hid hbv1
                  have hxs : x.size ≤ 1000000 := by have := unsF_len u.toList; rw [← hx, list_len, list_len] at this; omega
                  have HG3 : Hid (allF tenD x.toList = r) := by show _ = _; rw [hx]; exact HG2.out
                  clear hbv1 hx HG2
                  cases hxe : x.toList.isEmpty with
                  | true =>
                    have : r = false := by rw [← HG3.out, allF, hxe]; rfl
                    subst this
                    clear HG3
                    go_wp2_with fail
                    go_ret
                    exact ⟨rfl, HV1.out⟩
                  | false =>
                    have HG4 : Hid (r = decide (digN tenD x.toList = x.size)) := by show _ = _; rw [← HG3.out, allF_dig, hxe, list_len]; rfl
                    clear HG3
                    go_wp2_with fail
                    refine (rdig_at HV1.out x hxs 10 tenD (.inr (.inl ⟨rfl, rfl⟩)) _ rfl).mono ?_
                    rintro e v2 ⟨rfl, hbv2⟩
                    have HV2 := Lib.hid hbv2
                    clear hbv2
                    go_wp2_with fail
                    go_ret
                    exact ⟨ret_bool (by rw [HG4.out]; apply bool_iff; simp; omega), HV2.out⟩
                · go_wp2_with fail
                  refine (rsign_at HBX.out u).mono ?_
                  rintro e v1 ⟨x, hx, rfl, hbv1⟩
                  have HV1 := Lib.hid hbv1
                  have hxs : x.size ≤ 1000000 := by have := unsF_len u.toList; rw [← hx, list_len, list_len] at this; omega
                  have HG3 : Hid (allF tenD x.toList = r) := by show _ = _; rw [hx]; exact HG2.out
                  clear hbv1 hx HG2
                  cases hxe : x.toList.isEmpty with
                  | true =>
                    have : r = false := by rw [← HG3.out, allF, hxe]; rfl
                    subst this
                    clear HG3
                    go_wp2_with fail
                    go_ret
                    exact ⟨rfl, HV1.out⟩
                  | false =>
                    have HG4 : Hid (r = decide (digN tenD x.toList = x.size)) := by show _ = _; rw [← HG3.out, allF_dig, hxe, list_len]; rfl
                    clear HG3
                    go_wp2_with fail
                    refine (rdig_at HV1.out x hxs 10 tenD (.inr (.inl ⟨rfl, rfl⟩)) _ rfl).mono ?_
                    rintro e v2 ⟨rfl, hbv2⟩
                    have HV2 := Lib.hid hbv2
                    clear hbv2
                    go_wp2_with fail
                    go_ret
                    exact ⟨ret_bool (by rw [HG4.out]; apply bool_iff; simp; omega), HV2.out⟩
              · have : r = false := by rw [← HG.out, show (y == 101 || y == 69) = false by simpa using hyy]; rfl
                subst this
                have e1' : ((y.toNat : Int) != 101) = true := by rw [e1, beq_eq_false_iff_ne.2 (fun h => hyy (.inl h))]; rfl
                have e2' : ((y.toNat : Int) != 69) = true := by rw [e2, beq_eq_false_iff_ne.2 (fun h => hyy (.inr h))]; rfl
                clear e1 e2 hyy HG
                generalize (y.toNat : Int) = yc at *
                go_wp2_with fail
                go_ret
                exact ⟨rfl, HBX.out⟩
      · have dlt : decide ((n : Int) < (t.size : Int)) = false := decide_eq_false (by omega)
        have hfn := frac_no t.toList (by rw [HN.out, List.getElem?_eq_none (by rw [list_len]; omega)]; exact fun h => by cases h)
        rw [HN.out] at hfn
        have HFN := Lib.hid hfn
        have HBX := HB6
        clear hfn HB6
        by_cases hz : n = 0
        · have : r = false := by rw [← HR3.out, HFN.out.1, hz]; rfl
          subst this
          have hz' : ((n : Int) == 0) = true := beq_iff_eq.2 (by omega)
          clear HFN HR3
          go_wp2_with fail
          go_ret
          exact ⟨rfl, HBX.out⟩
        · have hz' : ((n : Int) == 0) = false := beq_eq_false_iff_ne.2 (by omega)
          have HF : Hid (((t.toList.drop n).isEmpty || expF (t.toList.drop n)) = r) := by
            show _ = _
            rw [← HR3.out, HFN.out.1, HFN.out.2, decide_eq_true (by omega), Bool.true_and]
          clear HFN HR3
          obtain ⟨m, rfl⟩ : ∃ m, m = n := ⟨_, rfl⟩
          by_cases hme : m = t.size
          · subst hme
            have : r = true := by rw [← HF.out, List.drop_eq_nil_of_le (by rw [list_len]; omega)]; rfl
            subst this
            clear HF
            go_wp2_with fail
            go_ret
            exact ⟨rfl, HBX.out⟩
          · have hmne : ((m : Int) == (t.size : Int)) = false := beq_eq_false_iff_ne.2 (by omega)
            obtain ⟨y, hy, hiy⟩ := str_ix t m (by omega)
            obtain ⟨u, hue, hu, hus⟩ := str_from t (m + 1) (by omega)
            have hex := exp_of t.toList m y hy
            have HG : Hid (((y == 101 || y == 69) && allF tenD (unsF u.toList)) = r) := by
              show _ = _
              rw [hu, ← hex.2, ← HF.out, hex.1, Bool.false_or]
            have e1 := u8_ne y 101
            have e2 := u8_ne y 69
            simp only [show (((101 : UInt8).toNat : Nat) : Int) = 101 from rfl] at e1
            simp only [show (((69 : UInt8).toNat : Nat) : Int) = 69 from rfl] at e2
            clear hex hy hu HF
            by_cases hyy : y = 101 ∨ y = 69
            · have HG2 : Hid (allF tenD (unsF u.toList) = r) := by
                show _ = _
                rw [← HG.out, show (y == 101 || y == 69) = true by simpa using hyy, Bool.true_and]
              clear HG
              have hpick : (((y.toNat : Int) != 101) = false) ∨ (((y.toNat : Int) != 101) = true ∧ ((y.toNat : Int) != 69) = false) := by
                rw [e1, e2]
                rcases hyy with h | h
                · left; rw [h]; rfl
                · right; rw [h]; exact ⟨rfl, rfl⟩
              clear e1 e2 hyy
              generalize (y.toNat : Int) = yc at *
              rcases hpick with e1 | ⟨e1, e2⟩
              · go_wp2_with fail
                refine (rsign_at HBX.out u).mono ?_
                rintro e v1 ⟨x, hx, rfl, hbv1⟩
                have HV1 := Lib.hid hbv1
                have hxs : x.size ≤ 1000000 := by have := unsF_len u.toList; rw [← hx, list_len, list_len] at this; omega
                have HG3 : Hid (allF tenD x.toList = r) := by show _ = _; rw [hx]; exact HG2.out
                clear hbv1 hx HG2
                cases hxe : x.toList.isEmpty with
                | true =>
                  have : r = false := by rw [← HG3.out, allF, hxe]; rfl
                  subst this
                  clear HG3
                  go_wp2_with fail
                  go_ret
                  exact ⟨rfl, HV1.out⟩
                | false =>
                  have HG4 : Hid (r = decide (digN tenD x.toList = x.size)) := by show _ = _; rw [← HG3.out, allF_dig, hxe, list_len]; rfl
                  clear HG3
                  go_wp2_with fail
                  refine (rdig_at HV1.out x hxs 10 tenD (.inr (.inl ⟨rfl, rfl⟩)) _ rfl).mono ?_
                  rintro e v2 ⟨rfl, hbv2⟩
                  have HV2 := Lib.hid hbv2
                  clear hbv2
                  go_wp2_with fail
                  go_ret
                  exact ⟨ret_bool (by rw [HG4.out]; apply bool_iff; simp; omega), HV2.out⟩
              · go_wp2_with fail
                refine (rsign_at HBX.out u).mono ?_
                rintro e v1 ⟨x, hx, rfl, hbv1⟩
                have HV1 := Lib.hid hbv1
                have hxs : x.size ≤ 1000000 := by have := unsF_len u.toList; rw [← hx, list_len, list_len] at this; omega
                have HG3 : Hid (allF tenD x.toList = r) := by show _ = _; rw [hx]; exact HG2.out
                clear hbv1 hx HG2
                cases hxe : x.toList.isEmpty with
                | true =>
                  have : r = false := by rw [← HG3.out, allF, hxe]; rfl
                  subst this
                  clear HG3
                  go_wp2_with fail
                  go_ret
                  exact ⟨rfl, HV1.out⟩
                | false =>
                  have HG4 : Hid (r = decide (digN tenD x.toList = x.size)) := by show _ = _; rw [← HG3.out, allF_dig, hxe, list_len]; rfl
                  clear HG3
                  go_wp2_with fail
                  refine (rdig_at HV1.out x hxs 10 tenD (.inr (.inl ⟨rfl, rfl⟩)) _ rfl).mono ?_
                  rintro e v2 ⟨rfl, hbv2⟩
                  have HV2 := Lib.hid hbv2
                  clear hbv2
                  go_wp2_with fail
                  go_ret
                  exact ⟨ret_bool (by rw [HG4.out]; apply bool_iff; simp; omega), HV2.out⟩
            · have : r = false := by rw [← HG.out, show (y == 101 || y == 69) = false by simpa using hyy]; rfl
              subst this
              have e1' : ((y.toNat : Int) != 101) = true := by rw [e1, beq_eq_false_iff_ne.2 (fun h => hyy (.inl h))]; rfl
              have e2' : ((y.toNat : Int) != 69) = true := by rw [e2, beq_eq_false_iff_ne.2 (fun h => hyy (.inr h))]; rfl
              clear e1 e2 hyy HG
              generalize (y.toNat : Int) = yc at *
              go_wp2_with fail
              go_ret
              exact ⟨rfl, HBX.out⟩

set_option maxHeartbeats 1000000 in
theorem rres_at {w W : World} (hb : Below w.heap.size w W) (s : ByteArray) (hs : s.size ≤ 1000000) (r : ByteArray) (h : resF s.toList = r.toList) : Calls Tryd.prog 20 #[.string s] W (TxtP r w) := by
  have HB := Lib.hid hb
  have HH := Lib.hid h
  clear hb h
  cases h1 : nullF s.toList with
  | true =>
    obtain rfl : r = mk [33, 33, 110, 117, 108, 108] := list_inj (by rw [← HH.out, resF, if_pos h1, mk_list])
    have H1 := Lib.hid h1
    clear h1 HH
    go_enter Tryd.func20, Tryd.ntmps20
    go_wp2_with fail
    refine (rnull_at HB.out s _ H1.out).mono ?_
    rintro e w1 ⟨rfl, hb1⟩
    have HB1 := Lib.hid hb1
    clear hb1
    go_wp2_with fail
    go_ret
    exact ⟨rfl, HB1.out⟩
  | false =>
    have H1 := Lib.hid h1
    cases h2 : boolF s.toList with
    | true =>
      obtain rfl : r = mk [33, 33, 98, 111, 111, 108] := list_inj (by rw [← HH.out, resF, h1, if_neg (by simp), if_pos h2, mk_list])
      have H2 := Lib.hid h2
      clear h1 h2 HH
      go_enter Tryd.func20, Tryd.ntmps20
      go_wp2_with fail
      refine (rnull_at HB.out s _ H1.out).mono ?_
      rintro e w1 ⟨rfl, hb1⟩
      have HB1 := Lib.hid hb1
      clear hb1
      go_wp2_with fail
      refine (rbool_at HB1.out s _ H2.out).mono ?_
      rintro e w2 ⟨rfl, hb2⟩
      have HB2 := Lib.hid hb2
      clear hb2
      go_wp2_with fail
      go_ret
      exact ⟨rfl, HB2.out⟩
    | false =>
      have H2 := Lib.hid h2
      cases h3 : intF s.toList with
      | true =>
        obtain rfl : r = mk [33, 33, 105, 110, 116] := list_inj (by rw [← HH.out, resF, h1, if_neg (by simp), h2, if_neg (by simp), if_pos h3, mk_list])
        have H3 := Lib.hid h3
        clear h1 h2 h3 HH
        go_enter Tryd.func20, Tryd.ntmps20
        go_wp2_with fail
        refine (rnull_at HB.out s _ H1.out).mono ?_
        rintro e w1 ⟨rfl, hb1⟩
        have HB1 := Lib.hid hb1
        clear hb1
        go_wp2_with fail
        refine (rbool_at HB1.out s _ H2.out).mono ?_
        rintro e w2 ⟨rfl, hb2⟩
        have HB2 := Lib.hid hb2
        clear hb2
        go_wp2_with fail
        refine (rint_at HB2.out s hs _ H3.out).mono ?_
        rintro e w3 ⟨rfl, hb3⟩
        have HB3 := Lib.hid hb3
        clear hb3
        go_wp2_with fail
        go_ret
        exact ⟨rfl, HB3.out⟩
      | false =>
        have H3 := Lib.hid h3
        cases h4 : floF s.toList with
        | true =>
          obtain rfl : r = mk [33, 33, 102, 108, 111, 97, 116] := list_inj (by rw [← HH.out, resF, h1, if_neg (by simp), h2, if_neg (by simp), h3, if_neg (by simp), if_pos h4, mk_list])
          have H4 := Lib.hid h4
          clear h1 h2 h3 h4 HH
          go_enter Tryd.func20, Tryd.ntmps20
          go_wp2_with fail
          refine (rnull_at HB.out s _ H1.out).mono ?_
          rintro e w1 ⟨rfl, hb1⟩
          have HB1 := Lib.hid hb1
          clear hb1
          go_wp2_with fail
          refine (rbool_at HB1.out s _ H2.out).mono ?_
          rintro e w2 ⟨rfl, hb2⟩
          have HB2 := Lib.hid hb2
          clear hb2
          go_wp2_with fail
          refine (rint_at HB2.out s hs _ H3.out).mono ?_
          rintro e w3 ⟨rfl, hb3⟩
          have HB3 := Lib.hid hb3
          clear hb3
          go_wp2_with fail
          refine (rflo_at HB3.out s hs _ H4.out).mono ?_
          rintro e w4 ⟨rfl, hb4⟩
          have HB4 := Lib.hid hb4
          clear hb4
          go_wp2_with fail
          go_ret
          exact ⟨rfl, HB4.out⟩
        | false =>
          obtain rfl : r = mk [33, 33, 115, 116, 114] := list_inj (by rw [← HH.out, resF, h1, if_neg (by simp), h2, if_neg (by simp), h3, if_neg (by simp), h4, if_neg (by simp), mk_list])
          have H4 := Lib.hid h4
          clear h1 h2 h3 h4 HH
          go_enter Tryd.func20, Tryd.ntmps20
          go_wp2_with fail
          refine (rnull_at HB.out s _ H1.out).mono ?_
          rintro e w1 ⟨rfl, hb1⟩
          have HB1 := Lib.hid hb1
          clear hb1
          go_wp2_with fail
          refine (rbool_at HB1.out s _ H2.out).mono ?_
          rintro e w2 ⟨rfl, hb2⟩
          have HB2 := Lib.hid hb2
          clear hb2
          go_wp2_with fail
          refine (rint_at HB2.out s hs _ H3.out).mono ?_
          rintro e w3 ⟨rfl, hb3⟩
          have HB3 := Lib.hid hb3
          clear hb3
          go_wp2_with fail
          refine (rflo_at HB3.out s hs _ H4.out).mono ?_
          rintro e w4 ⟨rfl, hb4⟩
          have HB4 := Lib.hid hb4
          clear hb4
          go_wp2_with fail
          go_ret
          exact ⟨rfl, HB4.out⟩
end Go.Proofs.YtdjpdcjljpmfnaaDoor
