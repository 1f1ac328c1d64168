/-
  Proved: the law 'scholium/scholiumlaw04.PlainTells' returns true for every input, and every argument reads as it did before. No conditions.
-/
import Derived.Test.YtliifflaadmofaaRows
import Derived.Test.YtliifflaadmofaaPlLaw
import Derived.Test.YtliifflaadmofaaKeep
import Derived.WalkKit
import Derived.ProofKit
import Derived.OpenShut
import Derived.ShutString
namespace Go.Proofs.Ytliifflaadmofaa.plainTells
open Go.ChangeShapes Go.WideShapes Go.ChangeAt Go.RowKit
open Go.ChangeMaps (open_string shut_string)
set_option linter.unusedVariables false      -- a walk need not use every 'w<i>' (that an integer argument fits its kind)

theorem own : ownKnob Try.prog.godebug = none := by kernel_rfl

set_option maxHeartbeats 8000000 in
set_option maxRecDepth 100000 in
theorem walk (a0 : ByteArray) (a1 : Bool) (w0 : a0.size ≤ maxLen) (w : World) :
    Calls Try.prog 5 #[.string a0, .bool a1] w fun e w' => e = .returned (.bool true) ∧ Below w.heap.size w w' := by
  go_enter Try.func5, Try.ntmps5
  go_wp2_with fail
  refine (text_any a0 80 _ (by omega) w0).mono ?_
  rintro e w' ⟨t, _, ht, rfl, rfl⟩
  clear w0
  obtain ⟨cap, W1, hrun, hle, hmax, hrd, hbel⟩ := bytes_of t (by omega) w
  have HL : Hid ((byt t).length = t.size) := byt_len t
  have HY := Lib.hid (byt_byte t)
  have HB := Lib.hid hbel
  have HR := Lib.hid hrd
  clear hrd hbel
  go_wp2_with fail
  clear hrun
  refine (lend_any _ t.size cap (byt t) W1 HL.out (by omega) HR.out).mono ?_
  rintro e W2 ⟨rfl, ho2, hb2⟩
  rw [HL.out]
  have HO2 := Lib.hid ho2
  have HR2 := Lib.hid (HR.out.below hb2)
  have HX2 := Lib.hid (lnd_rd ho2)
  have HB2 := Lib.hid (below_step HB.out hb2)
  clear ho2 hb2 HR HB
  generalize W1.heap.size = g at *
  obtain ⟨vs, hvs⟩ : ∃ v, startF (byt t) a1 = v := ⟨_, rfl⟩
  obtain ⟨vl, hvl⟩ : ∃ v, lenF (byt t) a1 = v := ⟨_, rfl⟩
  obtain ⟨vv, hvv⟩ : ∃ v, validF (byt t) a1 = v := ⟨_, rfl⟩
  have HVS := Lib.hid hvs
  have HVL := Lib.hid hvl
  have HVV := Lib.hid hvv
  clear hvs hvl hvv
  go_wp2_with fail
  refine (starts_any _ t.size (t.size + 3) (byt t) a1 W2 HL.out (by omega) (by omega) HY.out HX2.out vs HVS.out).mono ?_
  rintro e W3 ⟨rfl, hb3⟩
  have HB3 := Lib.hid hb3
  clear hb3
  go_wp2_with fail
  refine (refStarts_any _ t.size cap (byt t) a1 W3 HL.out hle hmax HY.out (HR2.out.below HB3.out) vs HVS.out).mono ?_
  rintro e w' ⟨rfl, rfl⟩
  go_wp2_with fail
  refine (length_any _ t.size (t.size + 3) (byt t) a1 W3 HL.out (by omega) (by omega) HY.out (HX2.out.below HB3.out) vl HVL.out).mono ?_
  rintro e W4 ⟨rfl, hb4⟩
  have HB4 := Lib.hid (below_step HB3.out hb4)
  clear hb4
  go_wp2_with fail
  refine (refLength_any _ t.size cap (byt t) a1 W4 HL.out hle hmax HY.out (HR2.out.below HB4.out) vl HVL.out).mono ?_
  rintro e w' ⟨rfl, rfl⟩
  go_wp2_with fail
  refine (valid_any t a1 W4 (by omega) vv HVV.out).mono ?_
  rintro e W5 ⟨rfl, hb5⟩
  have HB5 := Lib.hid (below_step HB4.out hb5)
  clear hb5
  go_wp2_with fail
  refine (refValid_any t a1 W5 (by omega) vv HVV.out).mono ?_
  rintro e W6 ⟨rfl, hb6⟩
  have HB6 := Lib.hid (below_step HB5.out hb6)
  clear hb6
  go_wp2_with fail
  refine (intact_any _ t.size cap g (byt t) W6 HL.out (by omega) (HR2.out.below HB6.out) (HO2.out.below HB6.out)).mono ?_
  rintro e W7 ⟨rfl, hb7⟩
  have HB7 := Lib.hid (below_step HB6.out hb7)
  clear hb7
  go_wp2_with fail
  refine (wakes_any W7).mono ?_
  rintro e W8 ⟨rfl, hb8⟩
  have HB8 := Lib.hid (below_step HB7.out hb8)
  clear hb8
  go_wp2_with fail
  go_ret
  exact ⟨rfl, below_step HB2.out HB8.out⟩

/-! ### THE ROW's STEP: WRITTEN OUT: LEAVE IT -/
set_option maxRecDepth 100000 in
theorem lifted (os : Os) (started : os.Started) (H : Type) (enc : TypeId × Value → H) :
    ReturnsInHanded {} Try.checked os 5 .any (Rows.plainTellsSpec.pre6 enc Try.prog Try.f5 Rows.plainTellsRow.domain false) (Rows.plainTellsSpec.post enc Try.prog Try.f5 false true false false) := by
  refine returnsInHanded_of_change (C := Try.checked) own started (by kernel_rfl) Try.func5
    (ChangeSpec.witness6 (enc := enc) (C := Try.checked) false ⟨#[], #[.string ByteArray.empty, .bool false], []⟩ 8 (by kernel_rfl) (by kernel_rfl) (by kernel_rfl) (by kernel_rfl)) ?_
  intro W base args ds gs before hval0 hW hcnd _
  have hval : ∀ (j : Nat) t v, Try.f5.params[j]? = some t → args[j]? = some v → Value.okWide Try.prog W .any base t v := hval0
  have hW' := hW
  obtain ⟨p, q, hA0, hV, rfl, hfz, hnd⟩ := hW
  have hA : DataW.TrodAll enc Try.prog W 0 (fun _ => true) true Try.f5.params.toList args.toList ds p := hA0
  rw [Try.params5] at hA hval
  obtain ⟨v0, vs0, d0, ds0, p0, q0, hargs, rfl, rfl, h0, r0⟩ := trodAll_cons hA
  obtain ⟨v1, vs1, d1, ds1, p1, q1, rfl, rfl, rfl, h1, r1⟩ := trodAll_cons r0
  obtain ⟨rfl, rfl, rfl⟩ := trodAll_nil r1
  obtain rfl : args = #[v0, v1] := by cases args; simp_all
  obtain ⟨rfl, rfl⟩ := trodVars_none hV
  obtain ⟨a0, rfl, rfl, rfl, w0⟩ := open_string Try.underlying9 (hval 0 9 v0 rfl rfl) h0
  obtain ⟨a1, rfl, rfl, rfl⟩ := open_bool Try.underlying4 (hval 1 4 v1 rfl rfl) h1
  clear hA0 hval0
  refine (walk a0 a1 w0 W).mono fun e W' ⟨he, hg⟩ => ?_
  subst he
  exact ⟨_, rfl, _, _, _, [], [], [], hW', trodAll_mk1 (shut_bool Try.underlying4 _), (trodAll_cons_mk (shut_string Try.underlying9 w0) (trodAll_cons_mk (shut_bool Try.underlying4 _) trodAll_mk0)), rfl, hg.frame _, fun h => by cases h⟩

theorem over : Rows.plainTellsRow.holds Try.pinned (OpenSpec.ofChange Rows.plainTellsSpec) :=
  OpenClaim.holds_of_wide 5 Try.f5 rfl rfl rfl rfl rfl rfl rfl ⟨rfl, rfl, rfl, rfl, rfl⟩ rfl rfl rfl rfl rfl (by kernel_rfl) Try.func5 (by kernel_rfl)
    (of_decide_eq_true (by kernel_rfl)) (by unfold Func.isWrapper; first | (rw [if_pos (by decide +kernel)]; kernel_rfl) | (rw [if_neg (by decide +kernel)]; exact ⟨rfl, rfl⟩))
    (fun os started H enc _ => lifted os started H enc)

/-- ████ THE STATEMENT ████ -/
theorem proved : Rows.PlainTellsSaid :=
  over
#print axioms proved
end Go.Proofs.Ytliifflaadmofaa.plainTells
