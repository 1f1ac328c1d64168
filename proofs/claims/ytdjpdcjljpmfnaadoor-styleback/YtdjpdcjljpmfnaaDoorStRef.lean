/- The document's Choose, Key, Best (chapter 9). -/
import Derived.Test.YtdjpdcjljpmfnaaDoorStMain
import Derived.Test.YtdjpdcjljpmfnaaDoorDbRPut
import Derived.Test.YtdjpdcjljpmfnaaDoorScRFlo
namespace Go.Proofs.YtdjpdcjljpmfnaaDoor
open Go.RowKit
set_option linter.unusedVariables false
set_option maxRecDepth 100000

theorem rputs_at {w W : World} (hb : Below w.heap.size w W) (s : ByteArray) (hs : s.size ≤ 1000000) (o : Option ByteArray) (ho : putA s = o) :
    Calls Tryd.prog 22 #[.string s] W (OptP o w) := (refPut_any s W hs _ rfl).mono fun e w' h => by
  obtain ⟨e1, hb1⟩ := putP_opt o ho h
  exact ⟨e1, below_step hb hb1⟩
theorem rvalid_at {w W : World} (hb : Below w.heap.size w W) (s : ByteArray) (fl : Bool) (hs : s.size ≤ 1000000) (v : Bool) (hv : validF (byt s) fl = v) :
    Calls Tryd.prog 21 #[.string s, .bool fl] W (BoolP v w) := (refValid_any s fl W hs v hv).mono fun e w' h => ⟨h.1, below_step hb h.2⟩

theorem str_list : strT.toList = [33, 33, 115, 116, 114] := mk_list [33, 33, 115, 116, 114]
/-- Both questions of the document: does it stand as it is, is it of that tag. -/
theorem read_ways {tag s : ByteArray} {fl b : Bool} (h : readF tag s fl = b) : ∃ v r, ∃ t : Bool, validF (byt s) fl = v ∧ resF s.toList = ByteArray.toList r ∧ (ByteArray.toList r == tag.toList) = t ∧ (v && t) = b := by
  obtain ⟨r, hr⟩ : ∃ r : ByteArray, resF s.toList = r.toList := ⟨mk _, (mk_list _).symm⟩
  exact ⟨_, r, _, rfl, hr, rfl, by rw [← h, readF, hr]⟩
set_option maxHeartbeats 1000000 in
theorem rchoose_at {w W : World} (hb : Below w.heap.size w W) (s : ByteArray) (fl : Bool) (hs : s.size ≤ 1000000) (c : ByteArray) (h : chooseF s fl = c) :
    Calls Tryd.prog 14 #[.string s, .bool fl] W (TxtP c w) := by
  have HB := Lib.hid hb
  have HH := Lib.hid h
  clear hb h
  obtain ⟨b, hv⟩ : ∃ b, readF strT s fl = b := ⟨_, rfl⟩
  have HV := Lib.hid hv
  obtain ⟨v, r, t, hva, hre, ht, hvt⟩ := read_ways hv
  rw [str_list] at ht
  have HVA := Lib.hid hva
  have HRE := Lib.hid hre
  clear hv hva hre
  cases b
  · obtain ⟨o, ho⟩ : ∃ o, putA s = o := ⟨_, rfl⟩
    have hc : o.getD ⟨#[]⟩ = c := by rw [← HH.out, ← ho]; unfold chooseF; rw [if_neg (by rw [HV.out]; simp)]
    have HC := Lib.hid hc
    have HO := Lib.hid ho
    clear ho HH hc
    cases v
    · clear hvt ht HRE
      go_enter Tryd.func14, Tryd.ntmps14
      go_wp2_with fail
      refine (rvalid_at HB.out s fl hs _ HVA.out).mono ?_
      rintro e w1 ⟨rfl, hb1⟩
      have HB1 := Lib.hid hb1
      clear hb1
      go_wp2_with fail
      refine (rputs_at HB1.out s hs o HO.out).mono ?_
      rintro e w2 ⟨rfl, hb2⟩
      have HB2 := Lib.hid hb2
      clear hb2
      rw [HC.out]
      generalize o.isSome = ok
      go_wp2_with fail
      go_ret
      exact ⟨rfl, HB2.out⟩
    · obtain rfl : t = false := hvt
      go_enter Tryd.func14, Tryd.ntmps14
      go_wp2_with fail
      refine (rvalid_at HB.out s fl hs _ HVA.out).mono ?_
      rintro e w1 ⟨rfl, hb1⟩
      have HB1 := Lib.hid hb1
      clear hb1
      go_wp2_with fail
      refine (rres_at HB1.out s hs r HRE.out).mono ?_
      rintro e w3 ⟨rfl, hb3⟩
      have HB3 := Lib.hid hb3
      clear hb3
      go_wp2_with fail
      refine (rputs_at HB3.out s hs o HO.out).mono ?_
      rintro e w2 ⟨rfl, hb2⟩
      have HB2 := Lib.hid hb2
      clear hb2
      rw [HC.out]
      generalize o.isSome = ok
      go_wp2_with fail
      go_ret
      exact ⟨rfl, HB2.out⟩
  · obtain rfl : c = s := by rw [← HH.out]; unfold chooseF; rw [if_pos HV.out]
    obtain ⟨rfl, rfl⟩ : v = true ∧ t = true := by simpa using hvt
    clear HH hvt
    go_enter Tryd.func14, Tryd.ntmps14
    go_wp2_with fail
    refine (rvalid_at HB.out c fl hs _ HVA.out).mono ?_
    rintro e w1 ⟨rfl, hb1⟩
    have HB1 := Lib.hid hb1
    clear hb1
    go_wp2_with fail
    refine (rres_at HB1.out c hs r HRE.out).mono ?_
    rintro e w3 ⟨rfl, hb3⟩
    have HB3 := Lib.hid hb3
    clear hb3
    go_wp2_with fail
    go_ret
    exact ⟨rfl, HB3.out⟩

set_option maxHeartbeats 1000000 in
theorem rkey_at {w W : World} (hb : Below w.heap.size w W) (s : ByteArray) (fl : Bool) (hs : s.size ≤ 1000000) (c : ByteArray) (h : chooseF s fl = c) (o : Option ByteArray) (ho : keyOf c = o) :
    Calls Tryd.prog 11 #[.string s, .bool fl] W (OptP o w) := by
  have HB := Lib.hid hb
  have HC := Lib.hid (rchoose_at hb s fl hs c h)
  have HO := Lib.hid ho
  have hcs : c.size ≤ 10 * s.size + 2 := by rw [← h]; exact choose_size s fl
  clear hb h ho
  by_cases h0 : c.size = 0
  · obtain rfl : o = none := by rw [← HO.out, keyOf, if_pos h0]
    obtain ⟨e1, e2⟩ := str_nil c h0
    clear HO
    go_enter Tryd.func11, Tryd.ntmps11
    go_wp2_with fail
    refine HC.out.mono ?_
    rintro e w1 ⟨rfl, hb1⟩
    have HB1 := Lib.hid hb1
    clear hb1
    go_wp2_with fail
    go_ret2
    exact ⟨rfl, HB1.out⟩
  · obtain ⟨e1, e2⟩ := str_none c (by omega)
    by_cases h1 : 128 < c.size
    · obtain rfl : o = none := by rw [← HO.out, keyOf, if_neg h0, if_pos h1]
      clear HO
      go_enter Tryd.func11, Tryd.ntmps11
      go_wp2_with fail
      refine HC.out.mono ?_
      rintro e w1 ⟨rfl, hb1⟩
      have HB1 := Lib.hid hb1
      clear hb1
      go_wp2_with fail
      go_ret2
      exact ⟨rfl, HB1.out⟩
    · obtain rfl : o = some c := by rw [← HO.out, keyOf, if_neg h0, if_neg h1]
      clear HO
      go_enter Tryd.func11, Tryd.ntmps11
      go_wp2_with fail
      refine HC.out.mono ?_
      rintro e w1 ⟨rfl, hb1⟩
      have HB1 := Lib.hid hb1
      clear hb1
      go_wp2_with fail
      go_ret2
      exact ⟨rfl, HB1.out⟩

set_option maxHeartbeats 2000000 in
theorem rbest_at {w W : World} (hb : Below w.heap.size w W) (tag s : ByteArray) (fl : Bool) (ht : tag.size ≤ 1000000) (hs : s.size ≤ 1000000) (o : Option ByteArray) (ho : bestF tag s fl = o) :
    Calls Tryd.prog 13 #[.string tag, .string s, .bool fl] W (OptP o w) := by
  have HB := Lib.hid hb
  have HO := Lib.hid ho
  clear hb ho
  have l3 : strT.toList = [33, 33, 115, 116, 114] := mk_list [33, 33, 115, 116, 114]
  by_cases hts : tag = strT
  · obtain ⟨c, hc⟩ : ∃ c, chooseF s fl = c := ⟨_, rfl⟩
    obtain rfl : someF c = o := by rw [← HO.out, bestF, if_pos hts, hc]
    have HC := Lib.hid (rchoose_at HB.out s fl hs c hc)
    have d1 : (tag.toList == [33, 33, 115, 116, 114]) = true := by rw [hts, l3]; rfl
    have d2 : tag.toList = [33, 33, 115, 116, 114] := by rw [hts, l3]
    have D2 := Lib.hid d2
    clear HO hts hc l3 d2
    by_cases h0 : c.size = 0
    · obtain ⟨e1, e2⟩ := str_nil c h0
      have hsf : someF c = none := by rw [someF, if_pos h0]
      rw [hsf]
      obtain rfl := size_nil h0
      clear hsf
      go_enter Tryd.func13, Tryd.ntmps13
      go_wp2_with fail
      refine HC.out.mono ?_
      rintro e w1 ⟨rfl, hb1⟩
      have HB1 := Lib.hid hb1
      clear hb1
      go_wp2_with fail
      go_ret2
      exact ⟨rfl, HB1.out⟩
    · obtain ⟨e1, e2⟩ := str_none c (by omega)
      have hsf : someF c = some c := by rw [someF, if_neg h0]
      rw [hsf]
      clear hsf
      go_enter Tryd.func13, Tryd.ntmps13
      go_wp2_with fail
      refine HC.out.mono ?_
      rintro e w1 ⟨rfl, hb1⟩
      have HB1 := Lib.hid hb1
      clear hb1
      go_wp2_with fail
      go_ret2
      exact ⟨rfl, HB1.out⟩
  · have d1 : (tag.toList == [33, 33, 115, 116, 114]) = false := by
      rw [← l3]; exact beq_eq_false_iff_ne.2 (fun h => hts (list_inj h))
    have d2 : ¬ tag.toList = [33, 33, 115, 116, 114] := by rw [← l3]; exact fun h => hts (list_inj h)
    obtain ⟨b, hv⟩ : ∃ b, readF tag s fl = b := ⟨_, rfl⟩
    have hof : o = if b = true then some s else (putA s).map fun p => tag ++ ⟨#[32]⟩ ++ p := by rw [← HO.out, bestF, if_neg hts, hv]
    have HOF := Lib.hid hof
    obtain ⟨v, r, t, hva, hre, ht2, hvt⟩ := read_ways hv
    have HVA := Lib.hid hva
    have HRE := Lib.hid hre
    clear HO hv l3 hof hts hva hre
    cases b
    · obtain ⟨q, hq⟩ : ∃ q, putA s = q := ⟨_, rfl⟩
      have HQ := Lib.hid (fun (W1 : World) (hb1 : Below w.heap.size w W1) => rputs_at hb1 s hs q hq)
      have hp := fun p (h : q = some p) => (putA_size (hq.trans h)).2
      have ho := HOF.out
      rw [hq] at ho
      clear HOF
      cases q with
      | none =>
        obtain rfl : o = none := ho
        clear hp hq
        cases t
        · clear hvt HVA
          go_enter Tryd.func13, Tryd.ntmps13
          go_wp2_with fail
          refine (rres_at HB.out s hs r HRE.out).mono ?_
          rintro e w3 ⟨rfl, hb3⟩
          have HB1 := Lib.hid hb3
          clear hb3
          go_wp2_with fail
          refine (HQ.out _ HB1.out).mono ?_
          rintro e w2 ⟨rfl, hb2⟩
          have HB2 := Lib.hid hb2
          clear hb2
          simp only [Option.getD_none, Option.isSome_none]
          go_wp2_with fail
          go_ret2
          exact ⟨rfl, HB2.out⟩
        · obtain rfl : v = false := by simpa using hvt
          clear hvt
          go_enter Tryd.func13, Tryd.ntmps13
          go_wp2_with fail
          refine (rres_at HB.out s hs r HRE.out).mono ?_
          rintro e w3 ⟨rfl, hb3⟩
          have HB3 := Lib.hid hb3
          clear hb3
          go_wp2_with fail
          refine (rvalid_at HB3.out s fl hs _ HVA.out).mono ?_
          rintro e w1 ⟨rfl, hb1⟩
          have HB1 := Lib.hid hb1
          clear hb1
          go_wp2_with fail
          refine (HQ.out _ HB1.out).mono ?_
          rintro e w2 ⟨rfl, hb2⟩
          have HB2 := Lib.hid hb2
          clear hb2
          simp only [Option.getD_none, Option.isSome_none]
          go_wp2_with fail
          go_ret2
          exact ⟨rfl, HB2.out⟩
      | some p =>
        obtain rfl : o = some (tag ++ ⟨#[32]⟩ ++ p) := ho
        have hps := hp p rfl
        clear hp hq
        cases t
        · clear hvt HVA
          go_enter Tryd.func13, Tryd.ntmps13
          go_wp2_with fail
          refine (rres_at HB.out s hs r HRE.out).mono ?_
          rintro e w3 ⟨rfl, hb3⟩
          have HB1 := Lib.hid hb3
          clear hb3
          go_wp2_with fail
          refine (HQ.out _ HB1.out).mono ?_
          rintro e w2 ⟨rfl, hb2⟩
          have HB2 := Lib.hid hb2
          clear hb2
          simp only [Option.getD_some, Option.isSome_some]
          go_wp2_with fail
          go_ret2
          exact ⟨rfl, HB2.out⟩
        · obtain rfl : v = false := by simpa using hvt
          clear hvt
          go_enter Tryd.func13, Tryd.ntmps13
          go_wp2_with fail
          refine (rres_at HB.out s hs r HRE.out).mono ?_
          rintro e w3 ⟨rfl, hb3⟩
          have HB3 := Lib.hid hb3
          clear hb3
          go_wp2_with fail
          refine (rvalid_at HB3.out s fl hs _ HVA.out).mono ?_
          rintro e w1 ⟨rfl, hb1⟩
          have HB1 := Lib.hid hb1
          clear hb1
          go_wp2_with fail
          refine (HQ.out _ HB1.out).mono ?_
          rintro e w2 ⟨rfl, hb2⟩
          have HB2 := Lib.hid hb2
          clear hb2
          simp only [Option.getD_some, Option.isSome_some]
          go_wp2_with fail
          go_ret2
          exact ⟨rfl, HB2.out⟩
    · obtain rfl : o = some s := HOF.out
      obtain ⟨rfl, rfl⟩ : v = true ∧ t = true := by simpa using hvt
      clear HOF hvt
      go_enter Tryd.func13, Tryd.ntmps13
      go_wp2_with fail
      refine (rres_at HB.out s hs r HRE.out).mono ?_
      rintro e w3 ⟨rfl, hb3⟩
      have HB3 := Lib.hid hb3
      clear hb3
      go_wp2_with fail
      refine (rvalid_at HB3.out s fl hs _ HVA.out).mono ?_
      rintro e w1 ⟨rfl, hb1⟩
      have HB1 := Lib.hid hb1
      clear hb1
      go_wp2_with fail
      go_ret2
      exact ⟨rfl, HB1.out⟩
end Go.Proofs.YtdjpdcjljpmfnaaDoor
