/- Package schema's Int, Float, Resolve; the document's example. -/
import Derived.Test.YtdjpdcjljpmfnaaDoorScMain
namespace Go.Proofs.YtdjpdcjljpmfnaaDoor
open Go.RowKit
set_option linter.unusedVariables false

set_option maxHeartbeats 1000000 in
theorem int_at {w W : World} (hb : Below w.heap.size w W) (s : ByteArray) (b : Bool) (h : intF s.toList = b) : Calls Tryd.prog 29 #[.string s] W (BoolP b w) := by
  have HB := Lib.hid hb
  have HH := Lib.hid h
  clear hb h
  cases h1 : Lib.hasPrefix s.toList [48, 111] with
  | true =>
    have HE : Hid (allF octD (Lib.trimPrefix s.toList [48, 111]) = b) := by show _ = _; rw [← HH.out, intF, if_pos h1]
    have HP := Lib.hid h1
    clear HH h1
    go_enter Tryd.func29, Tryd.ntmps29
    go_wp2_with fail
    refine (cut_at HB.out s _ [48, 111] (mk_list [48, 111]) _ HP.out).mono ?_
    rintro e w1 ⟨t, ht, rfl, hb1⟩
    have HB1 := Lib.hid hb1
    have HT := Lib.hid ht
    clear hb1 ht
    go_wp2_with fail
    refine (allOf_at HB1.out t octD _ (mk_list octD) (by decide) (by decide) b (by rw [HT.out]; exact HE.out)).mono ?_
    rintro e w2 ⟨rfl, hb2⟩
    have HB2 := Lib.hid hb2
    clear hb2
    go_wp2_with fail
    go_ret
    exact ⟨rfl, HB2.out⟩
  | false =>
    have HP := Lib.hid h1
    cases h2 : Lib.hasPrefix s.toList [48, 120] with
    | true =>
      have HE : Hid (allF hexU (Lib.trimPrefix s.toList [48, 120]) = b) := by show _ = _; rw [← HH.out, intF, if_neg (by simp [h1]), if_pos h2]
      have HQ := Lib.hid h2
      clear HH h1 h2
      go_enter Tryd.func29, Tryd.ntmps29
      go_wp2_with fail
      refine (cut_at HB.out s _ [48, 111] (mk_list [48, 111]) _ HP.out).mono ?_
      rintro e w1 ⟨t, ht, rfl, hb1⟩
      have HB1 := Lib.hid hb1
      clear hb1 ht
      go_wp2_with fail
      refine (cut_at HB1.out s _ [48, 120] (mk_list [48, 120]) _ HQ.out).mono ?_
      rintro e w2 ⟨u, hu, rfl, hb2⟩
      have HB2 := Lib.hid hb2
      have HU := Lib.hid hu
      clear hb2 hu
      go_wp2_with fail
      refine (allOf_at HB2.out u hexU _ (mk_list hexU) (by decide) (by decide) b (by rw [HU.out]; exact HE.out)).mono ?_
      rintro e w3 ⟨rfl, hb3⟩
      have HB3 := Lib.hid hb3
      clear hb3
      go_wp2_with fail
      go_ret
      exact ⟨rfl, HB3.out⟩
    | false =>
      have HE : Hid (allF tenD (unsF s.toList) = b) := by show _ = _; rw [← HH.out, intF, if_neg (by simp [h1]), if_neg (by simp [h2])]
      have HQ := Lib.hid h2
      clear HH h1 h2
      go_enter Tryd.func29, Tryd.ntmps29
      go_wp2_with fail
      refine (cut_at HB.out s _ [48, 111] (mk_list [48, 111]) _ HP.out).mono ?_
      rintro e w1 ⟨t, ht, rfl, hb1⟩
      have HB1 := Lib.hid hb1
      clear hb1 ht
      go_wp2_with fail
      refine (cut_at HB1.out s _ [48, 120] (mk_list [48, 120]) _ HQ.out).mono ?_
      rintro e w2 ⟨u, hu, rfl, hb2⟩
      have HB2 := Lib.hid hb2
      clear hb2 hu
      go_wp2_with fail
      refine (unsigned_at HB2.out s).mono ?_
      rintro e w3 ⟨v, hv, rfl, hb3⟩
      have HB3 := Lib.hid hb3
      have HV := Lib.hid hv
      clear hb3 hv
      go_wp2_with fail
      refine (allOf_at HB3.out v tenD _ (mk_list tenD) (by decide) (by decide) b (by rw [HV.out]; exact HE.out)).mono ?_
      rintro e w4 ⟨rfl, hb4⟩
      have HB4 := Lib.hid hb4
      clear hb4
      go_wp2_with fail
      go_ret
      exact ⟨rfl, HB4.out⟩
theorem unsF_len (l : List UInt8) : (unsF l).length ≤ l.length := by
  cases l with
  | nil => exact Nat.le_refl _
  | cons c t => rw [unsF]; split <;> simp
set_option maxHeartbeats 1000000 in
theorem flo_at {w W : World} (hb : Below w.heap.size w W) (s : ByteArray) (hs : s.size ≤ 100000000) (b : Bool) (h : floF s.toList = b) : Calls Tryd.prog 30 #[.string s] W (BoolP b w) := by
  have HB := Lib.hid hb
  have HH := Lib.hid h
  clear hb h
  cases h1 : nanF s.toList with
  | true =>
    have : b = true := by rw [← HH.out, floF, h1]; rfl
    subst this
    have H1 := Lib.hid h1
    clear h1 HH
    go_enter Tryd.func30, Tryd.ntmps30
    go_wp2_with fail
    refine (nan_at HB.out s _ H1.out).mono ?_
    rintro e w1 ⟨rfl, hb1⟩
    have HB1 := Lib.hid hb1
    clear hb1
    go_wp2_with fail
    go_ret
    exact ⟨rfl, HB1.out⟩
  | false =>
    have H1 := Lib.hid h1
    have HH2 : Hid ((infF (unsF s.toList) || (fracB (unsF s.toList) && ((fracR (unsF s.toList)).isEmpty || expF (fracR (unsF s.toList))))) = b) := by
      show _ = _; rw [← HH.out, floF, h1, Bool.false_or]
    clear HH h1
    have hul := unsF_len s.toList
    rw [list_len] at hul
    obtain ⟨l, hl⟩ : ∃ l, unsF s.toList = l := ⟨_, rfl⟩
    rw [hl] at HH2 hul
    have HL := Lib.hid hl
    clear hl
    go_enter Tryd.func30, Tryd.ntmps30
    go_wp2_with fail
    refine (nan_at HB.out s _ H1.out).mono ?_
    rintro e w1 ⟨rfl, hb1⟩
    have HB1 := Lib.hid hb1
    clear hb1
    go_wp2_with fail
    refine (unsigned_at HB1.out s).mono ?_
    rintro e w2 ⟨t, ht, rfl, hb2⟩
    have HB2 := Lib.hid hb2
    have HT : Hid (t.toList = l) := ht.trans HL.out
    have hts : t.size ≤ 100000000 := by rw [← list_len, HT.out]; omega
    clear hb2 ht
    cases h2 : infF l with
    | true =>
      have : b = true := by rw [← HH2.out, h2]; rfl
      subst this
      have H2 := Lib.hid h2
      clear h2 HH2
      go_wp2_with fail
      refine (inf_at HB2.out t true (by rw [HT.out]; exact H2.out)).mono ?_
      rintro e w3 ⟨rfl, hb3⟩
      have HB3 := Lib.hid hb3
      clear hb3
      go_wp2_with fail
      go_ret
      exact ⟨rfl, HB3.out⟩
    | false =>
      have H2 := Lib.hid h2
      have HH3 : Hid ((fracB l && ((fracR l).isEmpty || expF (fracR l))) = b) := by show _ = _; rw [← HH2.out, h2, Bool.false_or]
      clear h2 HH2
      go_wp2_with fail
      refine (inf_at HB2.out t false (by rw [HT.out]; exact H2.out)).mono ?_
      rintro e w3 ⟨rfl, hb3⟩
      have HB3 := Lib.hid hb3
      clear hb3
      cases h3 : fracB l with
      | false =>
        have : b = false := by rw [← HH3.out, h3]; rfl
        subst this
        have H3 := Lib.hid h3
        clear h3 HH3
        go_wp2_with fail
        refine (frac_at HB3.out t hts false (by rw [HT.out]; exact H3.out)).mono ?_
        rintro e w4 ⟨r, hr, rfl, hb4⟩
        have HB4 := Lib.hid hb4
        clear hb4 hr
        go_wp2_with fail
        go_ret
        exact ⟨rfl, HB4.out⟩
      | true =>
        have H3 := Lib.hid h3
        have HH4 : Hid (((fracR l).isEmpty || expF (fracR l)) = b) := by show _ = _; rw [← HH3.out, h3, Bool.true_and]
        clear h3 HH3
        go_wp2_with fail
        refine (frac_at HB3.out t hts true (by rw [HT.out]; exact H3.out)).mono ?_
        rintro e w4 ⟨r, hr, rfl, hb4⟩
        have HB4 := Lib.hid hb4
        have HR : Hid (r.toList = fracR l) := by show _ = _; rw [hr, HT.out]
        clear hb4 hr
        cases h4 : r.toList.isEmpty with
        | true =>
          have : b = true := by rw [← HH4.out, ← HR.out, h4]; rfl
          subst this
          go_wp2_with fail
          go_ret
          exact ⟨rfl, HB4.out⟩
        | false =>
          have HE : Hid (expF r.toList = b) := by show _ = _; rw [← HH4.out, ← HR.out, h4, Bool.false_or]
          go_wp2_with fail
          refine (exp_at HB4.out r b HE.out).mono ?_
          rintro e w5 ⟨rfl, hb5⟩
          have HB5 := Lib.hid hb5
          clear hb5
          go_wp2_with fail
          go_ret
          exact ⟨rfl, HB5.out⟩
/-- Resolve, its answer a text. -/
def TxtP (r : ByteArray) (w : World) (e : Ending) (w' : World) : Prop := e = .returned (.string r) ∧ Below w.heap.size w w'
set_option maxHeartbeats 1000000 in
theorem res_at {w W : World} (hb : Below w.heap.size w W) (s : ByteArray) (hs : s.size ≤ 100000000) (r : ByteArray) (h : resF s.toList = r.toList) : Calls Tryd.prog 17 #[.string s] W (TxtP r w) := by
  have HB := Lib.hid hb
  have HH := Lib.hid h
  clear hb h
  cases h1 : nullF s.toList with
  | true =>
    obtain rfl : r = mk [33, 33, 110, 117, 108, 108] := list_inj (by rw [← HH.out, resF, if_pos h1, mk_list])
    have H1 := Lib.hid h1
    clear h1 HH
    go_enter Tryd.func17, Tryd.ntmps17
    go_wp2_with fail
    refine (null_at HB.out s _ H1.out).mono ?_
    rintro e w1 ⟨rfl, hb1⟩
    have HB1 := Lib.hid hb1
    clear hb1
    go_wp2_with fail
    go_ret
    exact ⟨rfl, HB1.out⟩
  | false =>
    have H1 := Lib.hid h1
    cases h2 : boolF s.toList with
    | true =>
      obtain rfl : r = mk [33, 33, 98, 111, 111, 108] := list_inj (by rw [← HH.out, resF, h1, if_neg (by simp), if_pos h2, mk_list])
      have H2 := Lib.hid h2
      clear h1 h2 HH
      go_enter Tryd.func17, Tryd.ntmps17
      go_wp2_with fail
      refine (null_at HB.out s _ H1.out).mono ?_
      rintro e w1 ⟨rfl, hb1⟩
      have HB1 := Lib.hid hb1
      clear hb1
      go_wp2_with fail
      refine (bool_at HB1.out s _ H2.out).mono ?_
      rintro e w2 ⟨rfl, hb2⟩
      have HB2 := Lib.hid hb2
      clear hb2
      go_wp2_with fail
      go_ret
      exact ⟨rfl, HB2.out⟩
    | false =>
      have H2 := Lib.hid h2
      cases h3 : intF s.toList with
      | true =>
        obtain rfl : r = mk [33, 33, 105, 110, 116] := list_inj (by rw [← HH.out, resF, h1, if_neg (by simp), h2, if_neg (by simp), if_pos h3, mk_list])
        have H3 := Lib.hid h3
        clear h1 h2 h3 HH
        go_enter Tryd.func17, Tryd.ntmps17
        go_wp2_with fail
        refine (null_at HB.out s _ H1.out).mono ?_
        rintro e w1 ⟨rfl, hb1⟩
        have HB1 := Lib.hid hb1
        clear hb1
        go_wp2_with fail
        refine (bool_at HB1.out s _ H2.out).mono ?_
        rintro e w2 ⟨rfl, hb2⟩
        have HB2 := Lib.hid hb2
        clear hb2
        go_wp2_with fail
        refine (int_at HB2.out s _ H3.out).mono ?_
        rintro e w3 ⟨rfl, hb3⟩
        have HB3 := Lib.hid hb3
        clear hb3
        go_wp2_with fail
        go_ret
        exact ⟨rfl, HB3.out⟩
      | false =>
        have H3 := Lib.hid h3
        cases h4 : floF s.toList with
        | true =>
          obtain rfl : r = mk [33, 33, 102, 108, 111, 97, 116] := list_inj (by rw [← HH.out, resF, h1, if_neg (by simp), h2, if_neg (by simp), h3, if_neg (by simp), if_pos h4, mk_list])
          have H4 := Lib.hid h4
          clear h1 h2 h3 h4 HH
          go_enter Tryd.func17, Tryd.ntmps17
          go_wp2_with fail
          refine (null_at HB.out s _ H1.out).mono ?_
          rintro e w1 ⟨rfl, hb1⟩
          have HB1 := Lib.hid hb1
          clear hb1
          go_wp2_with fail
          refine (bool_at HB1.out s _ H2.out).mono ?_
          rintro e w2 ⟨rfl, hb2⟩
          have HB2 := Lib.hid hb2
          clear hb2
          go_wp2_with fail
          refine (int_at HB2.out s _ H3.out).mono ?_
          rintro e w3 ⟨rfl, hb3⟩
          have HB3 := Lib.hid hb3
          clear hb3
          go_wp2_with fail
          refine (flo_at HB3.out s hs _ H4.out).mono ?_
          rintro e w4 ⟨rfl, hb4⟩
          have HB4 := Lib.hid hb4
          clear hb4
          go_wp2_with fail
          go_ret
          exact ⟨rfl, HB4.out⟩
        | false =>
          obtain rfl : r = mk [33, 33, 115, 116, 114] := list_inj (by rw [← HH.out, resF, h1, if_neg (by simp), h2, if_neg (by simp), h3, if_neg (by simp), h4, if_neg (by simp), mk_list])
          have H4 := Lib.hid h4
          clear h1 h2 h3 h4 HH
          go_enter Tryd.func17, Tryd.ntmps17
          go_wp2_with fail
          refine (null_at HB.out s _ H1.out).mono ?_
          rintro e w1 ⟨rfl, hb1⟩
          have HB1 := Lib.hid hb1
          clear hb1
          go_wp2_with fail
          refine (bool_at HB1.out s _ H2.out).mono ?_
          rintro e w2 ⟨rfl, hb2⟩
          have HB2 := Lib.hid hb2
          clear hb2
          go_wp2_with fail
          refine (int_at HB2.out s _ H3.out).mono ?_
          rintro e w3 ⟨rfl, hb3⟩
          have HB3 := Lib.hid hb3
          clear hb3
          go_wp2_with fail
          refine (flo_at HB3.out s hs _ H4.out).mono ?_
          rintro e w4 ⟨rfl, hb4⟩
          have HB4 := Lib.hid hb4
          clear hb4
          go_wp2_with fail
          go_ret
          exact ⟨rfl, HB4.out⟩
/-- Resolve of a text whose kind is known. -/
theorem res_c {w W : World} (hb : Below w.heap.size w W) (s : ByteArray) (hs : s.size ≤ 100000000) (l r : List UInt8) (hl : s.toList = l) (h : resF l = r) : Calls Tryd.prog 17 #[.string s] W (TxtP (mk r) w) :=
  res_at hb s hs _ (by rw [hl, h, mk_list])
end Go.Proofs.YtdjpdcjljpmfnaaDoor
