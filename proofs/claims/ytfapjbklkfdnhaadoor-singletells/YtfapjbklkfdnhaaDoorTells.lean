/-
  Proved: the card of the law 'scholium/scholiumlaw05.SingleTells' (for every input it returns true, and every argument reads as it did before; the listed tables of Go's library are tied to the program's text). No conditions.
-/
import Derived.Test.YtfapjbklkfdnhaaDoorRows
import Derived.Test.YtfapjbklkfdnhaaDoorCards
import Derived.Test.YtfapjbklkfdnhaaDoorTie
import Derived.Test.YtfapjbklkfdnhaaDoorDoor
import Derived.Test.YtfapjbklkfdnhaaDoorSgLaw
import Derived.Test.YtfapjbklkfdnhaaDoorKeep
import Derived.WalkKit
import Derived.ProofKit
import Derived.OpenShut
import Derived.ShutString
import Derived.ChangeOld
import Derived.Below
import Derived.LaidMore
import Derived.Lay
import Derived.SevenTiedAt
namespace Go.Proofs.YtfapjbklkfdnhaaDoor.singleTells
open Go.ChangeShapes Go.WideShapes Go.ChangeAt Go.RowKit
open Go.ChangeMaps (open_string shut_string)
set_option linter.unusedVariables false

theorem own : ownKnob Tryd.prog.godebug = none := by kernel_rfl
theorem laidOut : laidOutB Tryd.prog = true := by kernel_rfl

/-- A slice of integers that came in. -/
def IsRow (k : IntKind) (w : World) (a : Option Addr) (len cap : Nat) (zs : List Int) : Prop :=
  (a = none ∧ len = 0 ∧ cap = 0 ∧ zs = []) ∨
  ∃ x, a = some x ∧ len ≤ cap ∧ cap ≤ maxLen ∧ zs.length = cap ∧ (∀ i, i < zs.length → w.cell? (x.add i) = some (.int k (zs.getD i 0))) ∧ ∀ n ∈ zs, (Lit.int k n).wf = true

set_option maxHeartbeats 2000000 in
set_option maxRecDepth 100000 in
theorem walk (a0 : ByteArray) (a1 : Bool) (w : World) (w0 : a0.size ≤ maxLen) (hM : MaxL w) :
    Calls Tryd.prog 5 #[.string a0, .bool a1] w fun e w' => e = .returned (.bool true) ∧ Below w.heap.size w w' := by
  have HM := Lib.hid hM
  clear hM
  go_enter Tryd.func5, Tryd.ntmps5
  go_wp2_with fail
  refine (text_any a0 80 _ (by omega) w0).mono ?_
  rintro e w' ⟨t, _, ht, rfl, rfl⟩
  clear w0
  obtain ⟨u, hu, hus⟩ : ∃ u, (if a1 = true then (⟨#[39]⟩ : ByteArray) ++ t else t) = u ∧ u.size ≤ 81 := by
    refine ⟨_, rfl, ?_⟩
    split
    · rw [ByteArray.size_append]; have : (⟨#[39]⟩ : ByteArray).size = 1 := rfl; omega
    · omega
  obtain ⟨cap, W1, hrun, hle, hmax, hrd, hbel⟩ := bytes_of u (by omega) w
  have HL : Hid ((byt u).length = u.size) := byt_len u
  have HY := Lib.hid (byt_byte u)
  have HB := Lib.hid hbel
  have HR := Lib.hid hrd
  clear hrd hbel
  obtain ⟨o, ho⟩ : ∃ o, takeS (byt u) = o := ⟨_, rfl⟩
  obtain ⟨ok, hok⟩ : ∃ ok, inF true u.size (byt u) = ok := ⟨_, rfl⟩
  have HO := Lib.hid ho
  have HK := Lib.hid hok
  clear ho hok
  cases a1
  · have hu : u = t := hu.symm
    subst hu
    go_wp2_with fail
    clear hrun
    refine (lend_any _ u.size cap (byt u) W1 HL.out (by omega) HR.out).mono ?_
    rintro e W2 ⟨rfl, ho2, hb2⟩
    rw [HL.out]
    have HO2 := Lib.hid ho2
    have HR2 := Lib.hid (HR.out.below hb2)
    have HX2 := Lib.hid (lnd_rd ho2)
    have HB2 := Lib.hid (below_step HB.out hb2)
    clear ho2 hb2 HR HB
    generalize W1.heap.size = g at *
    go_wp2_with fail
    refine (take_any _ u.size (u.size + 3) (byt u) W2 HL.out (by omega) (by omega) (by omega) HY.out HX2.out (fun h => by cases h) (HM.out.below HB2.out) o HO.out).mono ?_
    rintro e W3 ⟨v1, hv1, rfl, hb3⟩
    have HB3 := Lib.hid hb3
    have HV1 := Lib.hid hv1
    clear hb3 hv1
    go_wp2_with fail
    refine (refTake_any _ u.size cap (byt u) W3 HL.out hle hmax (by omega) HY.out (HR2.out.below HB3.out) o HO.out).mono ?_
    rintro e W4 ⟨v2, hv2, rfl, hb4⟩
    have HB4 := Lib.hid (below_step HB3.out hb4)
    obtain rfl : v1 = v2 := byt_inj (by rw [HV1.out, hv2])
    clear hb4 hv2 HV1
    generalize tkN o = m at *
    generalize o.isSome = is at *
    go_wp2_with fail
    refine (put_any u W4 (by omega) ((HM.out.below HB2.out).below HB4.out) ok HK.out).mono ?_
    rintro e W5 ⟨p1, hp1, rfl, hb5⟩
    have HB5 := Lib.hid (below_step HB4.out hb5)
    have HP1 := Lib.hid hp1
    clear hb5 hp1
    go_wp2_with fail
    refine (refPut_any u W5 (by omega) ok HK.out).mono ?_
    rintro e W6 ⟨p2, hp2, rfl, hb6⟩
    have HB6 := Lib.hid (below_step HB5.out hb6)
    obtain rfl : p1 = p2 := byt_inj (by rw [HP1.out, hp2])
    clear hb6 hp2 HP1
    go_wp2_with fail
    refine (intact_any _ u.size cap g (byt u) W6 HL.out (by omega) (HR2.out.below HB6.out) (HO2.out.below HB6.out)).mono ?_
    rintro e W7 ⟨rfl, hb7⟩
    have HB7 := Lib.hid (below_step HB6.out hb7)
    clear hb7
    go_wp2_with fail
    refine (wakes_any W7 ((HM.out.below HB2.out).below HB7.out)).mono ?_
    rintro e W8 ⟨rfl, hb8⟩
    have HB8 := Lib.hid (below_step HB7.out hb8)
    clear hb8
    go_wp2_with fail
    go_ret
    exact ⟨rfl, below_step HB2.out HB8.out⟩
  · have hu : (⟨#[39]⟩ : ByteArray) ++ t = u := hu
    go_wp2_with fail
    clear hrun
    refine (lend_any _ u.size cap (byt u) W1 HL.out (by omega) HR.out).mono ?_
    rintro e W2 ⟨rfl, ho2, hb2⟩
    rw [HL.out]
    have HO2 := Lib.hid ho2
    have HR2 := Lib.hid (HR.out.below hb2)
    have HX2 := Lib.hid (lnd_rd ho2)
    have HB2 := Lib.hid (below_step HB.out hb2)
    clear ho2 hb2 HR HB
    generalize W1.heap.size = g at *
    go_wp2_with fail
    refine (take_any _ u.size (u.size + 3) (byt u) W2 HL.out (by omega) (by omega) (by omega) HY.out HX2.out (fun h => by cases h) (HM.out.below HB2.out) o HO.out).mono ?_
    rintro e W3 ⟨v1, hv1, rfl, hb3⟩
    have HB3 := Lib.hid hb3
    have HV1 := Lib.hid hv1
    clear hb3 hv1
    go_wp2_with fail
    refine (refTake_any _ u.size cap (byt u) W3 HL.out hle hmax (by omega) HY.out (HR2.out.below HB3.out) o HO.out).mono ?_
    rintro e W4 ⟨v2, hv2, rfl, hb4⟩
    have HB4 := Lib.hid (below_step HB3.out hb4)
    obtain rfl : v1 = v2 := byt_inj (by rw [HV1.out, hv2])
    clear hb4 hv2 HV1
    generalize tkN o = m at *
    generalize o.isSome = is at *
    go_wp2_with fail
    refine (put_any u W4 (by omega) ((HM.out.below HB2.out).below HB4.out) ok HK.out).mono ?_
    rintro e W5 ⟨p1, hp1, rfl, hb5⟩
    have HB5 := Lib.hid (below_step HB4.out hb5)
    have HP1 := Lib.hid hp1
    clear hb5 hp1
    go_wp2_with fail
    refine (refPut_any u W5 (by omega) ok HK.out).mono ?_
    rintro e W6 ⟨p2, hp2, rfl, hb6⟩
    have HB6 := Lib.hid (below_step HB5.out hb6)
    obtain rfl : p1 = p2 := byt_inj (by rw [HP1.out, hp2])
    clear hb6 hp2 HP1
    go_wp2_with fail
    refine (intact_any _ u.size cap g (byt u) W6 HL.out (by omega) (HR2.out.below HB6.out) (HO2.out.below HB6.out)).mono ?_
    rintro e W7 ⟨rfl, hb7⟩
    have HB7 := Lib.hid (below_step HB6.out hb7)
    clear hb7
    go_wp2_with fail
    refine (wakes_any W7 ((HM.out.below HB2.out).below HB7.out)).mono ?_
    rintro e W8 ⟨rfl, hb8⟩
    have HB8 := Lib.hid (below_step HB7.out hb8)
    clear hb8
    go_wp2_with fail
    go_ret
    exact ⟨rfl, below_step HB2.out HB8.out⟩


set_option maxRecDepth 100000 in
theorem lifted (os : Os) (started : os.Started) (H : Type) (enc : TypeId × Value → H) :
    ReturnsInHanded {} Tryd.checked os 5 .any (fun w args => (Rows.singleTellsSpec.pre enc Tryd.prog Tryd.f5 Rows.singleTellsRow.domain false w args ∧ laidMetH Tryd.prog Rows.singleTellsRow.laid w) ∧ sizedMet enc Tryd.prog Tryd.f5 (OpenSpec.ofChange Rows.singleTellsSpec) false w args)
      (Rows.singleTellsSpec.post enc Tryd.prog Tryd.f5 false true false false) := by
  refine returns_listed (C := Tryd.checked) (X := fun w _ => laidMetH Tryd.prog Rows.singleTellsRow.laid w) (fun _ _ _ hh h => h.of_heap hh) own started (by kernel_rfl) Tryd.func5
    (ChangeSpec.witness_shaped (enc := enc) (C := Tryd.checked) (os := os) (X := fun w _ => laidMetH Tryd.prog Rows.singleTellsRow.laid w) false (World.laidAll Tryd.prog os Rows.singleTellsRow.laid) #[.string ByteArray.empty, .bool false] 8 (World.laidAll_os _ _ _)
      (World.shaped_of_ZipB (by kernel_rfl) (by kernel_rfl)) (by kernel_rfl) (by kernel_rfl) (by kernel_rfl)
      (by rw [MakeChecks.laidMetH_plain _ _ _ (by kernel_rfl)]; exact laidMet_laidAll _ (by kernel_rfl) (by kernel_rfl))) ?_
  intro W base args ds gs before hval0 hW _ hsh
  have hval : ∀ (j : Nat) t v, Tryd.f5.params[j]? = some t → args[j]? = some v → Value.okWide Tryd.prog W .any base t v := hval0
  have hW' := hW
  obtain ⟨p, q, hA0, hV, rfl, hfz, hnd⟩ := hW
  have hA : DataW.TrodAll enc Tryd.prog W 0 (fun _ => true) true Tryd.f5.params.toList args.toList ds p := hA0
  rw [Tryd.params5] at hA hval
  obtain ⟨v0, vs0, d0, ds0, p0, q0, hargs, rfl, rfl, h0, r0⟩ := trodAll_cons hA
  obtain ⟨v1, vs1, d1, ds1, p1, q1, rfl, rfl, rfl, h1, r1⟩ := trodAll_cons r0
  obtain ⟨rfl, rfl, rfl⟩ := trodAll_nil r1
  obtain rfl : args = #[v0, v1] := by cases args; simp_all
  obtain ⟨rfl, rfl⟩ := trodVars_none hV
  obtain ⟨a0, rfl, rfl, rfl, w0⟩ := open_string Tryd.underlying9 (hval 0 9 v0 rfl rfl) h0
  obtain ⟨a1, rfl, rfl, rfl⟩ := open_bool Tryd.underlying4 (hval 1 4 v1 rfl rfl) h1
  clear hA0 hval0
  refine (walk a0 a1 W w0 (maxL_shaped hsh)).mono fun e W' ⟨he, bel⟩ => ?_
  subst he
  exact ⟨_, rfl, _, _, _, [], _, [], hW', trodAll_mk1 (shut_bool Tryd.underlying4 _), (trodAll_cons_mk (shut_string Tryd.underlying9 w0) (trodAll_cons_mk (shut_bool Tryd.underlying4 _) trodAll_mk0)), rfl, bel.frame _, fun h => by cases h⟩

theorem over : Rows.singleTellsRow.holds Tryd.pinned (OpenSpec.ofChange Rows.singleTellsSpec) :=
  OpenClaim.holds_of_wide 5 Tryd.f5 rfl rfl rfl rfl rfl rfl rfl ⟨rfl, rfl, rfl, rfl, rfl⟩ rfl rfl rfl rfl rfl (by kernel_rfl) Tryd.func5 (by kernel_rfl)
    (of_decide_eq_true (by kernel_rfl)) (by unfold Func.isWrapper; first | (rw [if_pos (by decide +kernel)]; kernel_rfl) | (rw [if_neg (by decide +kernel)]; exact ⟨rfl, rfl⟩))
    (fun os started H enc _ => lifted os started H enc)

theorem proved : Rows.SingleTellsCardSaid :=
  Claim7.holds_tied_plain_at .later [] [.data, .pinned] true (true, "c5e4571ad1cca09650eba91c1bb4250b8a20ec4ae701ff2c2e70efc704cfcc79") false over (fun _ h => by cases h) (by kernel_rfl) (fun _ h => by cases h) singleTells_row_tie rfl ⟨rfl, rfl⟩ (by kernel_rfl) rfl
    (fun f fn hf hfn => by
      obtain rfl : f = 5 := Option.some.inj ((show Tryd.prog.funcNamed Rows.singleTellsRow.func = some 5 by kernel_rfl).symm.trans hf) |>.symm
      obtain rfl : fn = Tryd.f5 := (Option.some.inj (Tryd.func5.symm.trans hfn)).symm
      exact ⟨by kernel_rfl, fun j t ht => by
        rw [Tryd.params5] at ht
        have hm : t ∈ [9, 4] := by simpa using Array.mem_of_getElem? ht
        have hall : ([9, 4].all fun u => !Tryd.prog.wantsStandIn u) = true := by kernel_rfl
        exact (show Tryd.prog.wantsStandIn t = false by simpa using List.all_eq_true.1 hall t hm)⟩)
    (by kernel_rfl)
#print axioms proved
end Go.Proofs.YtfapjbklkfdnhaaDoor.singleTells
