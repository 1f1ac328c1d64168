/- Package style: readAs, Choose, Key, Best. -/
import Derived.Test.YtdjpdcjljpmfnaaDoorStPure
import Derived.Test.YtdjpdcjljpmfnaaDoorPlLaw
import Derived.Test.YtdjpdcjljpmfnaaDoorDbLaw
import Derived.Test.YtdjpdcjljpmfnaaDoorScRes
namespace Go.Proofs.YtdjpdcjljpmfnaaDoor
open Go.RowKit
set_option linter.unusedVariables false
set_option maxRecDepth 100000

/-- A text, or none: as a text and a bool. -/
def OptP (o : Option ByteArray) (w : World) (e : Ending) (w' : World) : Prop := e = .returned (.tuple #[.string (o.getD ⟨#[]⟩), .bool o.isSome]) ∧ Below w.heap.size w w'
theorem putP_opt {s : ByteArray} {w : World} {e : Ending} {w' : World} (o : Option ByteArray) (ho : putA s = o) (h : PutP (putD (byt s)) w e w') : OptP o w e w' := by
  obtain ⟨p, hp, rfl, hb⟩ := h
  cases hq : putD (byt s) with
  | none =>
    rw [hq] at hp
    have e1 : o = none := by rw [← ho]; exact putA_none.2 hq
    subst e1
    obtain rfl : p = ⟨#[]⟩ := byt_inj (by rw [hp]; rfl)
    exact ⟨rfl, hb⟩
  | some l =>
    rw [hq] at hp
    have e1 : o = some p := by rw [← ho]; unfold putA; rw [hq]; simp only [Option.map_some, Option.getD_some] at hp ⊢; rw [← hp, strOfNums_byt]
    subst e1
    exact ⟨rfl, hb⟩
theorem puts_at {w W : World} (hb : Below w.heap.size w W) (hS : Shorts w) (s : ByteArray) (hs : s.size ≤ 1000000) (o : Option ByteArray) (ho : putA s = o) :
    Calls Tryd.prog 15 #[.string s] W (OptP o w) := (put_txt hb hS hs _ rfl).mono fun e w' h => putP_opt o ho h

set_option maxHeartbeats 1000000 in
theorem readAs_at {w W : World} (hb : Below w.heap.size w W) (tag s : ByteArray) (fl : Bool) (hs : s.size ≤ 1000000) (b : Bool) (h : readF tag s fl = b) :
    Calls Tryd.prog 19 #[.string tag, .string s, .bool fl] W (BoolP b w) := by
  unfold readF at h
  obtain ⟨r, hr⟩ : ∃ r : ByteArray, resF s.toList = r.toList := ⟨mk _, (mk_list _).symm⟩
  rw [hr] at h
  have HR := Lib.hid hr
  obtain ⟨v, hv⟩ : ∃ v, validF (byt s) fl = v := ⟨_, rfl⟩
  rw [hv] at h
  have HV := Lib.hid hv
  have HB := Lib.hid hb
  have HH := Lib.hid h
  clear hr hv hb h
  cases v
  · obtain rfl : b = false := HH.out.symm
    go_enter Tryd.func19, Tryd.ntmps19
    go_wp2_with fail
    refine (valid_txt HB.out hs fl _ rfl _ HV.out).mono ?_
    rintro e w1 ⟨rfl, hb1⟩
    have HB1 := Lib.hid hb1
    clear hb1
    go_wp2_with fail
    go_ret
    exact ⟨rfl, HB1.out⟩
  · obtain ⟨t, ht⟩ : ∃ t, (r.toList == tag.toList) = t := ⟨_, rfl⟩
    obtain rfl : b = t := by rw [← HH.out, ht]; rfl
    clear HH
    go_enter Tryd.func19, Tryd.ntmps19
    go_wp2_with fail
    refine (valid_txt HB.out hs fl _ rfl _ HV.out).mono ?_
    rintro e w1 ⟨rfl, hb1⟩
    have HB1 := Lib.hid hb1
    clear hb1
    go_wp2_with fail
    refine (res_at HB1.out s (by omega) r HR.out).mono ?_
    rintro e w2 ⟨rfl, hb2⟩
    have HB2 := Lib.hid hb2
    clear hb2
    go_wp2_with fail
    go_ret
    exact ⟨rfl, HB2.out⟩

set_option maxHeartbeats 1000000 in
theorem choose_at {w W : World} (hb : Below w.heap.size w W) (hS : Shorts w) (s : ByteArray) (fl : Bool) (hs : s.size ≤ 1000000) (c : ByteArray) (h : chooseF s fl = c) :
    Calls Tryd.prog 8 #[.string s, .bool fl] W (TxtP c w) := by
  have HB := Lib.hid hb
  have HS := Lib.hid hS
  have HH := Lib.hid h
  clear hb hS h
  obtain ⟨b, hv⟩ : ∃ b, readF ⟨#[33, 33, 115, 116, 114]⟩ s fl = b := ⟨_, rfl⟩
  have HV := Lib.hid hv
  clear hv
  cases b
  · obtain ⟨o, ho⟩ : ∃ o, putA s = o := ⟨_, rfl⟩
    have hc : o.getD ⟨#[]⟩ = c := by rw [← HH.out, ← ho]; unfold chooseF; rw [if_neg (by rw [show readF strT s fl = false from HV.out]; simp)]
    have HC := Lib.hid hc
    have HO := Lib.hid ho
    clear ho HH hc
    go_enter Tryd.func8, Tryd.ntmps8
    go_wp2_with fail
    refine (readAs_at HB.out _ s fl hs _ HV.out).mono ?_
    rintro e w1 ⟨rfl, hb1⟩
    have HB1 := Lib.hid hb1
    clear hb1
    go_wp2_with fail
    refine (puts_at HB1.out HS.out s hs o HO.out).mono ?_
    rintro e w2 ⟨rfl, hb2⟩
    have HB2 := Lib.hid hb2
    clear hb2
    rw [HC.out]
    generalize o.isSome = ok
    go_wp2_with fail
    go_ret
    exact ⟨rfl, HB2.out⟩
  · obtain rfl : c = s := by rw [← HH.out]; unfold chooseF; rw [if_pos (show readF strT s fl = true from HV.out)]
    clear HH
    go_enter Tryd.func8, Tryd.ntmps8
    go_wp2_with fail
    refine (readAs_at HB.out _ c fl hs _ HV.out).mono ?_
    rintro e w1 ⟨rfl, hb1⟩
    have HB1 := Lib.hid hb1
    clear hb1
    go_wp2_with fail
    go_ret
    exact ⟨rfl, HB1.out⟩

set_option maxHeartbeats 1000000 in
theorem key_at {w W : World} (hb : Below w.heap.size w W) (hS : Shorts w) (s : ByteArray) (fl : Bool) (hs : s.size ≤ 1000000) (c : ByteArray) (h : chooseF s fl = c) (o : Option ByteArray) (ho : keyOf c = o) :
    Calls Tryd.prog 7 #[.string s, .bool fl] W (OptP o w) := by
  have HB := Lib.hid hb
  have HC := Lib.hid (choose_at hb hS s fl hs c h)
  have HO := Lib.hid ho
  have hcs : c.size ≤ 10 * s.size + 2 := by rw [← h]; exact choose_size s fl
  clear hb hS h ho
  by_cases h0 : c.size = 0
  · obtain rfl : o = none := by rw [← HO.out, keyOf, if_pos h0]
    obtain ⟨e1, e2⟩ := str_nil c h0
    clear HO
    go_enter Tryd.func7, Tryd.ntmps7
    go_wp2_with fail
    refine HC.out.mono ?_
    rintro e w1 ⟨rfl, hb1⟩
    have HB1 := Lib.hid hb1
    clear hb1
    go_wp2_with fail
    go_ret2
    exact ⟨rfl, HB1.out⟩
  · obtain ⟨e1, e2⟩ := str_none c (by omega)
    by_cases h1 : 128 < c.size
    · obtain rfl : o = none := by rw [← HO.out, keyOf, if_neg h0, if_pos h1]
      clear HO
      go_enter Tryd.func7, Tryd.ntmps7
      go_wp2_with fail
      refine HC.out.mono ?_
      rintro e w1 ⟨rfl, hb1⟩
      have HB1 := Lib.hid hb1
      clear hb1
      go_wp2_with fail
      go_ret2
      exact ⟨rfl, HB1.out⟩
    · obtain rfl : o = some c := by rw [← HO.out, keyOf, if_neg h0, if_neg h1]
      clear HO
      go_enter Tryd.func7, Tryd.ntmps7
      go_wp2_with fail
      refine HC.out.mono ?_
      rintro e w1 ⟨rfl, hb1⟩
      have HB1 := Lib.hid hb1
      clear hb1
      go_wp2_with fail
      go_ret2
      exact ⟨rfl, HB1.out⟩

set_option maxHeartbeats 2000000 in
theorem best_at {w W : World} (hb : Below w.heap.size w W) (hS : Shorts w) (tag s : ByteArray) (fl : Bool) (ht : tag.size ≤ 1000000) (hs : s.size ≤ 1000000) (o : Option ByteArray) (ho : bestF tag s fl = o) :
    Calls Tryd.prog 12 #[.string tag, .string s, .bool fl] W (OptP o w) := by
  have HB := Lib.hid hb
  have HS := Lib.hid hS
  have HO := Lib.hid ho
  clear hb hS ho
  have l3 : strT.toList = [33, 33, 115, 116, 114] := mk_list [33, 33, 115, 116, 114]
  by_cases hts : tag = strT
  · obtain ⟨c, hc⟩ : ∃ c, chooseF s fl = c := ⟨_, rfl⟩
    obtain rfl : someF c = o := by rw [← HO.out, bestF, if_pos hts, hc]
    have HC := Lib.hid (choose_at HB.out HS.out s fl hs c hc)
    have d1 : (tag.toList == [33, 33, 115, 116, 114]) = true := by rw [hts, l3]; rfl
    have d2 : tag.toList = [33, 33, 115, 116, 114] := by rw [hts, l3]
    have D2 := Lib.hid d2
    clear HO hts hc l3 d2
    by_cases h0 : c.size = 0
    · obtain ⟨e1, e2⟩ := str_nil c h0
      have hsf : someF c = none := by rw [someF, if_pos h0]
      rw [hsf]
      obtain rfl := size_nil h0
      clear hsf
      go_enter Tryd.func12, Tryd.ntmps12
      go_wp2_with fail
      refine HC.out.mono ?_
      rintro e w1 ⟨rfl, hb1⟩
      have HB1 := Lib.hid hb1
      clear hb1
      go_wp2_with fail
      go_ret2
      exact ⟨rfl, HB1.out⟩
    · obtain ⟨e1, e2⟩ := str_none c (by omega)
      have hsf : someF c = some c := by rw [someF, if_neg h0]
      rw [hsf]
      clear hsf
      go_enter Tryd.func12, Tryd.ntmps12
      go_wp2_with fail
      refine HC.out.mono ?_
      rintro e w1 ⟨rfl, hb1⟩
      have HB1 := Lib.hid hb1
      clear hb1
      go_wp2_with fail
      go_ret2
      exact ⟨rfl, HB1.out⟩
  · have d1 : (tag.toList == [33, 33, 115, 116, 114]) = false := by
      rw [← l3]; exact beq_eq_false_iff_ne.2 (fun h => hts (list_inj h))
    have d2 : ¬ tag.toList = [33, 33, 115, 116, 114] := by rw [← l3]; exact fun h => hts (list_inj h)
    obtain ⟨b, hv⟩ : ∃ b, readF tag s fl = b := ⟨_, rfl⟩
    have hof : o = if b = true then some s else (putA s).map fun p => tag ++ ⟨#[32]⟩ ++ p := by rw [← HO.out, bestF, if_neg hts, hv]
    have HOF := Lib.hid hof
    have HV := Lib.hid hv
    clear HO hv l3 hof hts
    cases b
    · obtain ⟨q, hq⟩ : ∃ q, putA s = q := ⟨_, rfl⟩
      have HQ := Lib.hid (fun (W1 : World) (hb1 : Below w.heap.size w W1) => puts_at hb1 HS.out s hs q hq)
      have hp := fun p (h : q = some p) => (putA_size (hq.trans h)).2
      have ho := HOF.out
      rw [hq] at ho
      clear HOF
      cases q with
      | none =>
        obtain rfl : o = none := ho
        clear hp hq
        go_enter Tryd.func12, Tryd.ntmps12
        go_wp2_with fail
        refine (readAs_at HB.out tag s fl hs _ HV.out).mono ?_
        rintro e w1 ⟨rfl, hb1⟩
        have HB1 := Lib.hid hb1
        clear hb1
        go_wp2_with fail
        refine (HQ.out _ HB1.out).mono ?_
        rintro e w2 ⟨rfl, hb2⟩
        have HB2 := Lib.hid hb2
        clear hb2
        simp only [Option.getD_none, Option.isSome_none]
        go_wp2_with fail
        go_ret2
        exact ⟨rfl, HB2.out⟩
      | some p =>
        obtain rfl : o = some (tag ++ ⟨#[32]⟩ ++ p) := ho
        have hps := hp p rfl
        clear hp hq
        go_enter Tryd.func12, Tryd.ntmps12
        go_wp2_with fail
        refine (readAs_at HB.out tag s fl hs _ HV.out).mono ?_
        rintro e w1 ⟨rfl, hb1⟩
        have HB1 := Lib.hid hb1
        clear hb1
        go_wp2_with fail
        refine (HQ.out _ HB1.out).mono ?_
        rintro e w2 ⟨rfl, hb2⟩
        have HB2 := Lib.hid hb2
        clear hb2
        simp only [Option.getD_some, Option.isSome_some]
        go_wp2_with fail
        go_ret2
        exact ⟨rfl, HB2.out⟩
    · obtain rfl : o = some s := HOF.out
      clear HOF
      go_enter Tryd.func12, Tryd.ntmps12
      go_wp2_with fail
      refine (readAs_at HB.out tag s fl hs _ HV.out).mono ?_
      rintro e w1 ⟨rfl, hb1⟩
      have HB1 := Lib.hid hb1
      clear hb1
      go_wp2_with fail
      go_ret2
      exact ⟨rfl, HB1.out⟩
set_option maxHeartbeats 1000000 in
theorem wakes_at {w W : World} (hb : Below w.heap.size w W) (hS : Shorts w) : Calls Tryd.prog 10 #[] W (BoolP true w) := by
  have C := Lib.hid (choose_at hb hS ⟨#[116, 114, 117, 101]⟩ false (by decide) _ choose_wakes.1)
  have C2 := Lib.hid (fun (W1 : World) (hb1 : Below w.heap.size w W1) => choose_at hb1 hS ⟨#[97]⟩ true (by decide) _ choose_wakes.2)
  clear hS hb
  go_enter Tryd.func10, Tryd.ntmps10
  go_wp2_with fail
  refine C.out.mono ?_
  rintro e w1 ⟨rfl, hb1⟩
  have HB := Lib.hid hb1
  clear hb1 C
  go_wp2_with fail
  refine (C2.out _ HB.out).mono ?_
  rintro e w2 ⟨rfl, hb2⟩
  have HB2 := Lib.hid hb2
  clear hb2 C2
  go_wp2_with fail
  go_ret
  exact ⟨rfl, HB2.out⟩
end Go.Proofs.YtdjpdcjljpmfnaaDoor
