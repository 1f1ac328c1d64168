/-
  Proved: the law 'scholium/scholiumlaw01.CharsReturns' returns true for every input, and every argument reads as it did before. No conditions.
-/
import Derived.Test.YtpcbpblckecfiaaRows
import Derived.Test.YtpcbpblckecfiaaText
import Derived.WalkKit
import Derived.ProofKit
import Derived.OpenShut
import Derived.ShutString
namespace Go.Proofs.Ytpcbpblckecfiaa.charsReturns
open Go.ChangeShapes Go.WideShapes Go.ChangeAt Go.RowKit
open Go.ChangeMaps (open_string shut_string)
set_option linter.unusedVariables false      -- a walk need not use every 'w<i>' (that an integer argument fits its kind)

theorem own : ownKnob Try.prog.godebug = none := by kernel_rfl

theorem check_str (W0 : World) (s : ByteArray) (n cap : Nat) (W : World) (h : Bytes W0 s cap W) (hn : s.size = n) (x y : Int) (hf : checkF (byt s) = (x, y)) :
    Calls Try.prog 18 #[.slice (some ⟨W0.heap.size, 0, none⟩) n cap] W fun e w' => e = .returned (.tuple #[.int .i64 x, .int .i64 y]) ∧ W = w' := by
  subst hn
  exact check_at _ _ _ (byt s) W (byt_len s) h.le h.max (byt_byte s) h.rd x y hf

theorem mark_cases (t : ByteArray) : (mrk (byt t) = true ∧ 3 ≤ t.size ∧ ((t.extract 0 3).toList == [239, 187, 191]) = true) ∨ (mrk (byt t) = false ∧ 3 ≤ t.size ∧ ((t.extract 0 3).toList == [239, 187, 191]) = false) ∨ (mrk (byt t) = false ∧ t.size < 3) := by
  rw [mrk_byt]
  by_cases h : 3 ≤ t.size
  · rw [decide_eq_true h, Bool.true_and]
    cases (t.extract 0 3).toList == [239, 187, 191]
    · exact .inr (.inl ⟨rfl, h, rfl⟩)
    · exact .inl ⟨rfl, h, rfl⟩
  · rw [decide_eq_false h]
    exact .inr (.inr ⟨rfl, by omega⟩)

theorem nl_of (t : ByteArray) (h : t.size = 0 ∨ ∃ h0 : 0 < t.size, ((t[0].toNat : Int) == 10) = false) : (byt t).getD 0 0 ≠ 10 ∨ byt t = [] := by
  rcases h with h | ⟨h0, h⟩
  · right; exact List.eq_nil_of_length_eq_zero (by rw [byt_len]; exact h)
  · left
    have e := byt_at t 0 h0
    have : (byt t).getD 0 0 = (t[0].toNat : Int) := by simp only [List.getD, e]; rfl
    rw [this]; simpa using h
theorem ret1 (s t : ByteArray) (h1 : checkF (byt s) = (0, 0)) (ht : (byt t).getD 0 0 ≠ 10 ∨ byt t = []) (l1 : s.size ≤ 60) (l2 : t.size ≤ 60) : checkF (byt (s ++ ⟨#[13]⟩ ++ t)) = ((s.size : Int), 1) := by
  have hb := return_bad (byt t) ht
  have e : byt (s ++ ⟨#[13]⟩ ++ t) = byt s ++ (13 :: byt t) := by
    rw [byt_append, byt_append, show byt ⟨#[13]⟩ = [13] from rfl]; simp
  rw [e, text_spoilt _ _ h1 (.inr hb.2) hb.1 (by simp) (by rw [List.length_append, List.length_cons, byt_len, byt_len]; omega), byt_len]
theorem ret2 (s t : ByteArray) (h1 : checkF (byt s) = (0, 0)) (h2 : checkF (byt t) = (0, 0)) (hm : mrk (byt t) = false) (l1 : s.size ≤ 60) (l2 : t.size ≤ 60) : checkF (byt (s ++ ⟨#[13, 10]⟩ ++ t)) = (0, 0) := by
  have e : byt (s ++ ⟨#[13, 10]⟩ ++ t) = byt s ++ (13 :: 10 :: byt t) := by
    rw [byt_append, byt_append, show byt ⟨#[13, 10]⟩ = [13, 10] from rfl]; simp
  have hl : (byt s ++ (13 :: 10 :: byt t)).length = s.size + (t.size + 2) := by rw [List.length_append, List.length_cons, List.length_cons, byt_len, byt_len]
  rw [e, text_append _ _ h1 (.inr (by unfold mrk; simp)) (by omega)]
  exact return_good _ h2 hm _ (by rw [hl, byt_len]; omega) _
theorem ret3 (s t : ByteArray) (h1 : checkF (byt s) = (0, 0)) (h2 : checkF (byt t) = (0, 0)) (hm : mrk (byt t) = false) (l1 : s.size ≤ 60) (l2 : t.size ≤ 60) :
    (s.size = 0 → checkF (byt (s ++ ⟨#[239, 187, 191]⟩ ++ t)) = (0, 0)) ∧ (0 < s.size → checkF (byt (s ++ ⟨#[239, 187, 191]⟩ ++ t)) = ((s.size : Int), 1)) := by
  have e : byt (s ++ ⟨#[239, 187, 191]⟩ ++ t) = byt s ++ (239 :: 187 :: 191 :: byt t) := by
    rw [byt_append, byt_append, show byt ⟨#[239, 187, 191]⟩ = [239, 187, 191] from rfl]; simp
  rw [e]
  constructor
  · intro h
    have : byt s = [] := List.eq_nil_of_length_eq_zero (by rw [byt_len]; exact h)
    rw [this, List.nil_append]
    exact mark_text _ h2 hm (by rw [byt_len]; omega)
  · intro h
    have hne : byt s ≠ [] := by intro h'; have := byt_len s; rw [h'] at this; simp only [List.length_nil] at this; omega
    rw [text_spoilt _ _ h1 (.inl hne) (mark_bad _) (by simp) (by rw [List.length_append, List.length_cons, List.length_cons, List.length_cons, byt_len, byt_len]; omega), byt_len]

set_option maxHeartbeats 8000000 in
theorem walk (a0 : ByteArray) (a1 : ByteArray) (w0 : a0.size ≤ maxLen) (w1 : a1.size ≤ maxLen) (w : World) :
    Calls Try.prog 5 #[.string a0, .string a1] w fun e w' => e = .returned (.bool true) ∧ Below w.heap.size w w' := by
  have HW0 := Lib.hid w0
  have HW1 := Lib.hid w1
  clear w0 w1
  go_enter Try.func5, Try.ntmps5
  go_wp2_with fail
  refine (text_any a0 60 w (by omega) HW0.out).mono ?_
  rintro e w' ⟨s, hs, rfl, rfl⟩
  go_wp2_with fail
  refine (text_any a1 60 w (by omega) HW1.out).mono ?_
  rintro e w' ⟨t, ht, rfl, rfl⟩
  clear HW0 HW1
  obtain ⟨c1, W1, hb1⟩ := bytes_of s (by omega) w
  obtain ⟨c2, W2, hb2⟩ := bytes_of t (by omega) W1
  have r1 := hb1.run
  have r2 := hb2.run
  have HB1 := Lib.hid hb1
  have HB2 := Lib.hid hb2
  clear hb1 hb2
  obtain ⟨x1, y1, hf1⟩ : ∃ x y, checkF (byt s) = (x, y) := ⟨_, _, rfl⟩
  obtain ⟨x2, y2, hf2⟩ : ∃ x y, checkF (byt t) = (x, y) := ⟨_, _, rfl⟩
  have HF1 := Lib.hid hf1
  have HF2 := Lib.hid hf2
  clear hf1 hf2
  go_wp2_with fail
  refine (check_str w s s.size c1 W1 HB1.out rfl x1 y1 HF1.out).mono ?_
  rintro e w' ⟨rfl, rfl⟩
  go_wp2_with fail
  refine (check_str W1 t t.size c2 W2 HB2.out rfl x2 y2 HF2.out).mono ?_
  rintro e w' ⟨rfl, rfl⟩
  have hbel : Below w.heap.size w W2 := by
    have b1 := HB1.out.below
    have b2 := HB2.out.below
    exact b1.trans (b2.mono b1.size)
  have HBEL := Lib.hid hbel
  clear hbel r1 r2
  by_cases hy1 : y1 = 0
  · subst hy1
    have e1 : checkF (byt s) = (0, 0) := checkF_zero _ (by rw [HF1.out])
    have E1 := Lib.hid e1
    clear e1 HF1
    by_cases hy2 : y2 = 0
    · subst hy2
      have e2 : checkF (byt t) = (0, 0) := checkF_zero _ (by rw [HF2.out])
      have E2 := Lib.hid e2
      clear e2 HF2
      have hnl : (t.size = 0 ∨ ∃ h0 : 0 < t.size, ((t[0].toNat : Int) == 10) = false) ∨ ∃ h0 : 0 < t.size, ((t[0].toNat : Int) == 10) = true := by
        by_cases h0 : 0 < t.size
        · cases hc : ((t[0].toNat : Int) == 10)
          · exact .inl (.inr ⟨h0, hc⟩)
          · exact .inr ⟨h0, hc⟩
        · exact .inl (.inl (by omega))
      rcases hnl with hnl | ⟨h0, hnl⟩
      · have HT := Lib.hid (nl_of t hnl)
        rcases mark_cases t with ⟨hm, h3, hx⟩ | hno
        · clear hm
          rcases hnl with hnl | ⟨h0, hnl⟩
          · omega
          · have d0 : (0 : Int) < (t.size : Int) := by omega
            have d3 : (3 : Int) ≤ (t.size : Int) := by omega
            go_wp2_with (go_at_call 13; refine (wakes_any _).mono ?_; rintro e w9 ⟨rfl, hb9⟩)
            go_ret
            exact ⟨rfl, HBEL.out.trans (hb9.mono HBEL.out.size)⟩
        · have hm : mrk (byt t) = false := by rcases hno with h | h <;> exact h.1
          have HM := Lib.hid hm
          have hnx : ((3 : Int) ≤ (t.size : Int) ∧ ((t.extract 0 3).toList == [239, 187, 191]) = false) ∨ decide (3 ≤ (t.size : Int)) = false := by
            rcases hno with h | h
            · exact .inl ⟨by omega, h.2.2⟩
            · exact .inr (decide_eq_false (by omega))
          clear hm hno
          have f1 := Lib.hid (ret1 s t E1.out HT.out hs ht)
          have f2 := Lib.hid (ret2 s t E1.out E2.out HM.out hs ht)
          have f3 := Lib.hid (ret3 s t E1.out E2.out HM.out hs ht)
          obtain ⟨c3, W3, hb3⟩ := bytes_of (s ++ ⟨#[13]⟩ ++ t) (by rw [ByteArray.size_append, ByteArray.size_append]; show s.size + 1 + t.size ≤ _; omega) W2
          obtain ⟨c4, W4, hb4⟩ := bytes_of (s ++ ⟨#[13, 10]⟩ ++ t) (by rw [ByteArray.size_append, ByteArray.size_append]; show s.size + 2 + t.size ≤ _; omega) W3
          obtain ⟨c5, W5, hb5⟩ := bytes_of (s ++ ⟨#[239, 187, 191]⟩ ++ t) (by rw [ByteArray.size_append, ByteArray.size_append]; show s.size + 3 + t.size ≤ _; omega) W4
          have r3 := hb3.run
          have r4 := hb4.run
          have r5 := hb5.run
          have hbel2 : Below w.heap.size w W5 := by
            have b2 := HBEL.out
            have b3 := hb3.below
            have b4 := hb4.below
            have b5 := hb5.below
            have q3 := b2.trans (b3.mono b2.size)
            have q4 := q3.trans (b4.mono q3.size)
            exact q4.trans (b5.mono q4.size)
          have HBEL2 := Lib.hid hbel2
          have HB3 := Lib.hid hb3
          have HB4 := Lib.hid hb4
          have HB5 := Lib.hid hb5
          clear hb3 hb4 hb5 hbel2
          have hnl' : ((0 : Int) < (t.size : Int) ∧ ∃ h0 : 0 < t.size, ((t[0].toNat : Int) == 10) = false) ∨ (decide ((0 : Int) < (t.size : Int)) = false ∧ ¬ 0 < t.size) := by
            rcases hnl with h | ⟨h0, h⟩
            · exact .inr ⟨decide_eq_false (by omega), by omega⟩
            · exact .inl ⟨by omega, h0, h⟩
          clear hnl
          rcases hnl' with ⟨d0, h0, hnl⟩ | ⟨d0, d00⟩
          all_goals
            rcases hnx with ⟨d3, hx⟩ | d3
            all_goals
              go_wp2_with fail
              refine (check_str W2 _ _ c3 W3 HB3.out (by rw [ByteArray.size_append, ByteArray.size_append]; rfl) _ _ f1.out).mono ?_
              rintro e w' ⟨rfl, rfl⟩
              go_wp2_with fail
              refine (check_str W3 _ _ c4 W4 HB4.out (by rw [ByteArray.size_append, ByteArray.size_append]; rfl) _ _ f2.out).mono ?_
              rintro e w' ⟨rfl, rfl⟩
              by_cases hs0 : s.size = 0
              · have he : s.toList = [] := by rw [ByteArray.toList_eq]; exact List.eq_nil_of_length_eq_zero (by simpa using hs0)
                have HS0 := Lib.hid hs0
                clear hs0
                go_wp2_with fail
                refine (check_str W4 _ _ c5 W5 HB5.out (by rw [ByteArray.size_append, ByteArray.size_append]; rfl) _ _ (f3.out.1 HS0.out)).mono ?_
                rintro e w' ⟨rfl, rfl⟩
                go_wp2_with (go_at_call 13; refine (wakes_any _).mono ?_; rintro e w9 ⟨rfl, hb9⟩)
                go_ret
                exact ⟨rfl, HBEL2.out.trans (hb9.mono HBEL2.out.size)⟩
              · have he : s.toList.isEmpty = false := by rw [ByteArray.toList_eq, List.isEmpty_eq_false_iff]; intro h; exact hs0 (by have := congrArg List.length h; simpa using this)
                go_wp2_with fail
                refine (check_str W4 _ _ c5 W5 HB5.out (by rw [ByteArray.size_append, ByteArray.size_append]; rfl) _ _ (f3.out.2 (by omega))).mono ?_
                rintro e w' ⟨rfl, rfl⟩
                clear hs0
                go_wp2_with (go_at_call 13; refine (wakes_any _).mono ?_; rintro e w9 ⟨rfl, hb9⟩)
                go_ret
                exact ⟨rfl, HBEL2.out.trans (hb9.mono HBEL2.out.size)⟩
      · have d0 : (0 : Int) < (t.size : Int) := by omega
        go_wp2_with (go_at_call 13; refine (wakes_any _).mono ?_; rintro e w9 ⟨rfl, hb9⟩)
        go_ret
        exact ⟨rfl, HBEL.out.trans (hb9.mono HBEL.out.size)⟩
    · have dy : (y2 != 0) = true := by simpa using hy2
      go_wp2_with (go_at_call 13; refine (wakes_any _).mono ?_; rintro e w9 ⟨rfl, hb9⟩)
      go_ret
      exact ⟨rfl, HBEL.out.trans (hb9.mono HBEL.out.size)⟩
  · have dy : (y1 != 0) = true := by simpa using hy1
    go_wp2_with (go_at_call 13; refine (wakes_any _).mono ?_; rintro e w9 ⟨rfl, hb9⟩)
    go_ret
    exact ⟨rfl, HBEL.out.trans (hb9.mono HBEL.out.size)⟩

/-! ### THE ROW's STEP: WRITTEN OUT: LEAVE IT -/
set_option maxRecDepth 100000 in
theorem lifted (os : Os) (started : os.Started) (H : Type) (enc : TypeId × Value → H) :
    ReturnsInHanded {} Try.checked os 5 .any (Rows.charsReturnsSpec.pre6 enc Try.prog Try.f5 Rows.charsReturnsRow.domain false) (Rows.charsReturnsSpec.post enc Try.prog Try.f5 false true false false) := by
  refine returnsInHanded_of_change (C := Try.checked) own started (by kernel_rfl) Try.func5
    (ChangeSpec.witness6 (enc := enc) (C := Try.checked) false ⟨#[], #[.string ByteArray.empty, .string ByteArray.empty], []⟩ 8 (by kernel_rfl) (by kernel_rfl) (by kernel_rfl) (by kernel_rfl)) ?_
  intro W base args ds gs before hval0 hW hcnd _
  have hval : ∀ (j : Nat) t v, Try.f5.params[j]? = some t → args[j]? = some v → Value.okWide Try.prog W .any base t v := hval0
  have hW' := hW
  obtain ⟨p, q, hA0, hV, rfl, hfz, hnd⟩ := hW
  have hA : DataW.TrodAll enc Try.prog W 0 (fun _ => true) true Try.f5.params.toList args.toList ds p := hA0
  rw [Try.params5] at hA hval
  obtain ⟨v0, vs0, d0, ds0, p0, q0, hargs, rfl, rfl, h0, r0⟩ := trodAll_cons hA
  obtain ⟨v1, vs1, d1, ds1, p1, q1, rfl, rfl, rfl, h1, r1⟩ := trodAll_cons r0
  obtain ⟨rfl, rfl, rfl⟩ := trodAll_nil r1
  obtain rfl : args = #[v0, v1] := by cases args; simp_all
  obtain ⟨rfl, rfl⟩ := trodVars_none hV
  obtain ⟨a0, rfl, rfl, rfl, w0⟩ := open_string Try.underlying9 (hval 0 9 v0 rfl rfl) h0
  obtain ⟨a1, rfl, rfl, rfl, w1⟩ := open_string Try.underlying9 (hval 1 9 v1 rfl rfl) h1
  clear hA0 hval0
  refine (walk a0 a1 w0 w1 W).mono fun e W' ⟨he, hg⟩ => ?_
  subst he
  exact ⟨_, rfl, _, _, _, [], [], [], hW', trodAll_mk1 (shut_bool Try.underlying4 _), (trodAll_cons_mk (shut_string Try.underlying9 w0) (trodAll_cons_mk (shut_string Try.underlying9 w1) trodAll_mk0)), rfl, hg.frame _, fun h => by cases h⟩

theorem over : Rows.charsReturnsRow.holds Try.pinned (OpenSpec.ofChange Rows.charsReturnsSpec) :=
  OpenClaim.holds_of_wide 5 Try.f5 rfl rfl rfl rfl rfl rfl rfl ⟨rfl, rfl, rfl, rfl, rfl⟩ rfl rfl rfl rfl rfl (by kernel_rfl) Try.func5 (by kernel_rfl)
    (of_decide_eq_true (by kernel_rfl)) (by unfold Func.isWrapper; first | (rw [if_pos (by decide +kernel)]; kernel_rfl) | (rw [if_neg (by decide +kernel)]; exact ⟨rfl, rfl⟩))
    (fun os started H enc _ => lifted os started H enc)

/-- ████ THE STATEMENT ████ -/
theorem proved : Rows.CharsReturnsSaid :=
  over
#print axioms proved
end Go.Proofs.Ytpcbpblckecfiaa.charsReturns
