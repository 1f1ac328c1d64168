/-
  Proved: the card of the law 'scholium/scholiumlaw05.SingleApart' (for every input it returns true, and every argument reads as it did before; the listed tables of Go's library are tied to the program's text). No conditions.
-/
import Derived.Test.YtfapjbklkfdnhaaDoorRows
import Derived.Test.YtfapjbklkfdnhaaDoorCards
import Derived.Test.YtfapjbklkfdnhaaDoorTie
import Derived.Test.YtfapjbklkfdnhaaDoorDoor
import Derived.Test.YtfapjbklkfdnhaaDoorSgLaw
import Derived.Test.YtfapjbklkfdnhaaDoorKeep
import Derived.WalkKit
import Derived.ProofKit
import Derived.OpenShut
import Derived.ShutString
import Derived.ChangeOld
import Derived.Below
import Derived.LaidMore
import Derived.Lay
import Derived.SevenTiedAt
namespace Go.Proofs.YtfapjbklkfdnhaaDoor.singleApart
open Go.ChangeShapes Go.WideShapes Go.ChangeAt Go.RowKit
open Go.ChangeMaps (open_string shut_string)
set_option linter.unusedVariables false

theorem own : ownKnob Tryd.prog.godebug = none := by kernel_rfl
theorem laidOut : laidOutB Tryd.prog = true := by kernel_rfl

/-- A slice of integers that came in. -/
def IsRow (k : IntKind) (w : World) (a : Option Addr) (len cap : Nat) (zs : List Int) : Prop :=
  (a = none ∧ len = 0 ∧ cap = 0 ∧ zs = []) ∨
  ∃ x, a = some x ∧ len ≤ cap ∧ cap ≤ maxLen ∧ zs.length = cap ∧ (∀ i, i < zs.length → w.cell? (x.add i) = some (.int k (zs.getD i 0))) ∧ ∀ n ∈ zs, (Lit.int k n).wf = true

set_option maxHeartbeats 2000000 in
set_option maxRecDepth 100000 in
theorem walk (a0 : ByteArray) (a1 : ByteArray) (w : World) (w0 : a0.size ≤ maxLen) (w1 : a1.size ≤ maxLen) (hM : MaxL w) :
    Calls Tryd.prog 7 #[.string a0, .string a1] w fun e w' => e = .returned (.bool true) ∧ Below w.heap.size w w' := by
  have HM := Lib.hid hM
  have HB0 : Hid (Below w.heap.size w w) := Below.refl _ _
  clear hM
  go_enter Tryd.func7, Tryd.ntmps7
  go_wp2_with fail
  refine (text_any a0 40 _ (by omega) w0).mono ?_
  rintro e w' ⟨s, _, hs, rfl, rfl⟩
  clear w0
  go_wp2_with fail
  refine (text_any a1 40 _ (by omega) w1).mono ?_
  rintro e w' ⟨t, _, ht, rfl, rfl⟩
  clear w1
  obtain ⟨ok, hok⟩ : ∃ ok, inF true s.size (byt s) = ok := ⟨_, rfl⟩
  obtain ⟨is, his⟩ : ∃ ok, inF true t.size (byt t) = ok := ⟨_, rfl⟩
  have HK := Lib.hid hok
  have HI := Lib.hid his
  clear hok his
  go_wp2_with fail
  refine (put_txt HB0.out HM.out (by omega) ok HK.out).mono ?_
  rintro e W1 ⟨p, hp, rfl, hb1⟩
  have HB1 := Lib.hid hb1
  have HP := Lib.hid hp
  clear hb1 hp
  go_wp2_with fail
  refine (put_txt HB1.out HM.out (by omega) is HI.out).mono ?_
  rintro e W2 ⟨q, hq, rfl, hb2⟩
  have HB2 := Lib.hid hb2
  have HQ := Lib.hid hq
  clear hb2 hq
  by_cases hboth : ok = true ∧ is = true
  · obtain ⟨rfl, rfl⟩ := hboth
    have hp : byt p = putF (byt s) := HP.out
    have hq : byt q = putF (byt t) := HQ.out
    have hiff : p = q ↔ s = t := by
      constructor
      · intro h
        subst h
        have h2 : putF (byt s) = putF (byt t) := by rw [← hp, ← hq]
        unfold putF at h2
        injection h2 with _ h2
        exact byt_inj (dbl_inj _ _ (List.append_cancel_right h2))
      · intro h
        subst h
        exact byt_inj (by rw [hp, hq])
    obtain ⟨b, hb⟩ : ∃ b, (s.toList == t.toList) = b := ⟨_, rfl⟩
    have hb2 : (p.toList == q.toList) = b := by
      rw [← hb]
      apply bool_iff
      rw [Lib.bytes_beq_iff, Lib.bytes_beq_iff]
      exact hiff
    have hbb : (b != b) = false := by cases b <;> rfl
    have hns := inF_nobrk s.size (byt s) (byt_byte s) (by rw [byt_len]; omega) HK.out
    have hnt := inF_nobrk t.size (byt t) (byt_byte t) (by rw [byt_len]; omega) HI.out
    have hno : NoBrk (byt s ++ [39] ++ byt t) := by
      intro z hz
      simp at hz
      rcases hz with hz | rfl | hz
      · exact hns z hz
      · omega
      · exact hnt z hz
    obtain ⟨u, hu⟩ : ∃ u, p ++ q = u := ⟨_, rfl⟩
    have hub : byt u = putF (byt s ++ [39] ++ byt t) := by rw [← hu, byt_append, hp, hq, put_two]
    have HU := Lib.hid hub
    have hto := take_put (byt s ++ [39] ++ byt t) [] hno (by simp)
    rw [List.append_nil, ← hub, byt_len, ← hu, ByteArray.size_append, hu, hub] at hto
    have HTO := Lib.hid hto
    have hpl := put_len hp
    have hql := put_len hq
    have hc1 : (byt s).count 39 ≤ (byt s).length := List.count_le_length
    have hc2 : (byt t).count 39 ≤ (byt t).length := List.count_le_length
    rw [byt_len] at hpl hql hc1 hc2
    have hps : p.size ≤ 82 := by omega
    have hqs : q.size ≤ 82 := by omega
    have hus : u.size ≤ 164 := by rw [← hu, ByteArray.size_append]; omega
    clear hp hq hiff hns hnt hno hub hto hpl hql hc1 hc2 HK HI HP HQ
    obtain ⟨cap2, V2, B2⟩ := bytes_of u (by omega) W2
    have r2 := B2.run
    have HBY2 := Lib.hid B2
    clear B2
    go_wp2_with fail
    refine (take_txt HBY2.out HB2.out HM.out (by omega) _ HU.out _ HTO.out).mono ?_
    rintro e W3 ⟨v, hv, rfl, hb3⟩
    have HB3 := Lib.hid hb3
    have HV : Hid (byt v = byt s ++ [39] ++ byt t) := hv
    clear hb3 hv r2 HBY2
    simp only [tkN, Option.isSome, Int.natCast_add]
    obtain ⟨c1, hc1⟩ : ∃ x, s ++ (⟨#[39]⟩ : ByteArray) = x := ⟨_, rfl⟩
    obtain ⟨c2, hc2⟩ : ∃ x, c1 ++ t = x := ⟨_, rfl⟩
    have hc1s : c1.size ≤ 41 := by rw [← hc1, ByteArray.size_append]; have : (⟨#[39]⟩ : ByteArray).size = 1 := rfl; omega
    obtain rfl : v = c2 := byt_inj (by rw [HV.out, ← hc2, byt_append, ← hc1, byt_append]; rfl)
    clear hb hb2 hbb hu
    go_wp2_with fail
    refine (wakes_at HB3.out HM.out).mono ?_
    rintro e W4 ⟨rfl, hb4⟩
    have HB4 := Lib.hid hb4
    clear hb4
    go_wp2_with fail
    go_ret
    exact ⟨rfl, HB4.out⟩
  · have hways : ok = false ∨ (ok = true ∧ is = false) := by
      cases ok
      · exact .inl rfl
      · cases is
        · exact .inr ⟨rfl, rfl⟩
        · exact absurd ⟨rfl, rfl⟩ hboth
    clear hboth HP HQ HK HI
    rcases hways with rfl | ⟨rfl, rfl⟩
    · go_wp2_with fail
      refine (wakes_at HB2.out HM.out).mono ?_
      rintro e W4 ⟨rfl, hb4⟩
      have HB4 := Lib.hid hb4
      clear hb4
      go_wp2_with fail
      go_ret
      exact ⟨rfl, HB4.out⟩
    · go_wp2_with fail
      refine (wakes_at HB2.out HM.out).mono ?_
      rintro e W4 ⟨rfl, hb4⟩
      have HB4 := Lib.hid hb4
      clear hb4
      go_wp2_with fail
      go_ret
      exact ⟨rfl, HB4.out⟩


set_option maxRecDepth 100000 in
theorem lifted (os : Os) (started : os.Started) (H : Type) (enc : TypeId × Value → H) :
    ReturnsInHanded {} Tryd.checked os 7 .any (fun w args => (Rows.singleApartSpec.pre enc Tryd.prog Tryd.f7 Rows.singleApartRow.domain false w args ∧ laidMetH Tryd.prog Rows.singleApartRow.laid w) ∧ sizedMet enc Tryd.prog Tryd.f7 (OpenSpec.ofChange Rows.singleApartSpec) false w args)
      (Rows.singleApartSpec.post enc Tryd.prog Tryd.f7 false true false false) := by
  refine returns_listed (C := Tryd.checked) (X := fun w _ => laidMetH Tryd.prog Rows.singleApartRow.laid w) (fun _ _ _ hh h => h.of_heap hh) own started (by kernel_rfl) Tryd.func7
    (ChangeSpec.witness_shaped (enc := enc) (C := Tryd.checked) (os := os) (X := fun w _ => laidMetH Tryd.prog Rows.singleApartRow.laid w) false (World.laidAll Tryd.prog os Rows.singleApartRow.laid) #[.string ByteArray.empty, .string ByteArray.empty] 8 (World.laidAll_os _ _ _)
      (World.shaped_of_ZipB (by kernel_rfl) (by kernel_rfl)) (by kernel_rfl) (by kernel_rfl) (by kernel_rfl)
      (by rw [MakeChecks.laidMetH_plain _ _ _ (by kernel_rfl)]; exact laidMet_laidAll _ (by kernel_rfl) (by kernel_rfl))) ?_
  intro W base args ds gs before hval0 hW _ hsh
  have hval : ∀ (j : Nat) t v, Tryd.f7.params[j]? = some t → args[j]? = some v → Value.okWide Tryd.prog W .any base t v := hval0
  have hW' := hW
  obtain ⟨p, q, hA0, hV, rfl, hfz, hnd⟩ := hW
  have hA : DataW.TrodAll enc Tryd.prog W 0 (fun _ => true) true Tryd.f7.params.toList args.toList ds p := hA0
  rw [Tryd.params7] at hA hval
  obtain ⟨v0, vs0, d0, ds0, p0, q0, hargs, rfl, rfl, h0, r0⟩ := trodAll_cons hA
  obtain ⟨v1, vs1, d1, ds1, p1, q1, rfl, rfl, rfl, h1, r1⟩ := trodAll_cons r0
  obtain ⟨rfl, rfl, rfl⟩ := trodAll_nil r1
  obtain rfl : args = #[v0, v1] := by cases args; simp_all
  obtain ⟨rfl, rfl⟩ := trodVars_none hV
  obtain ⟨a0, rfl, rfl, rfl, w0⟩ := open_string Tryd.underlying9 (hval 0 9 v0 rfl rfl) h0
  obtain ⟨a1, rfl, rfl, rfl, w1⟩ := open_string Tryd.underlying9 (hval 1 9 v1 rfl rfl) h1
  clear hA0 hval0
  refine (walk a0 a1 W w0 w1 (maxL_shaped hsh)).mono fun e W' ⟨he, bel⟩ => ?_
  subst he
  exact ⟨_, rfl, _, _, _, [], _, [], hW', trodAll_mk1 (shut_bool Tryd.underlying4 _), (trodAll_cons_mk (shut_string Tryd.underlying9 w0) (trodAll_cons_mk (shut_string Tryd.underlying9 w1) trodAll_mk0)), rfl, bel.frame _, fun h => by cases h⟩

theorem over : Rows.singleApartRow.holds Tryd.pinned (OpenSpec.ofChange Rows.singleApartSpec) :=
  OpenClaim.holds_of_wide 7 Tryd.f7 rfl rfl rfl rfl rfl rfl rfl ⟨rfl, rfl, rfl, rfl, rfl⟩ rfl rfl rfl rfl rfl (by kernel_rfl) Tryd.func7 (by kernel_rfl)
    (of_decide_eq_true (by kernel_rfl)) (by unfold Func.isWrapper; first | (rw [if_pos (by decide +kernel)]; kernel_rfl) | (rw [if_neg (by decide +kernel)]; exact ⟨rfl, rfl⟩))
    (fun os started H enc _ => lifted os started H enc)

theorem proved : Rows.SingleApartCardSaid :=
  Claim7.holds_tied_plain_at .later [] [.data, .pinned] true (true, "c5e4571ad1cca09650eba91c1bb4250b8a20ec4ae701ff2c2e70efc704cfcc79") false over (fun _ h => by cases h) (by kernel_rfl) (fun _ h => by cases h) singleApart_row_tie rfl ⟨rfl, rfl⟩ (by kernel_rfl) rfl
    (fun f fn hf hfn => by
      obtain rfl : f = 7 := Option.some.inj ((show Tryd.prog.funcNamed Rows.singleApartRow.func = some 7 by kernel_rfl).symm.trans hf) |>.symm
      obtain rfl : fn = Tryd.f7 := (Option.some.inj (Tryd.func7.symm.trans hfn)).symm
      exact ⟨by kernel_rfl, fun j t ht => by
        rw [Tryd.params7] at ht
        have hm : t ∈ [9, 9] := by simpa using Array.mem_of_getElem? ht
        have hall : ([9, 9].all fun u => !Tryd.prog.wantsStandIn u) = true := by kernel_rfl
        exact (show Tryd.prog.wantsStandIn t = false by simpa using List.all_eq_true.1 hall t hm)⟩)
    (by kernel_rfl)
#print axioms proved
end Go.Proofs.YtfapjbklkfdnhaaDoor.singleApart
