/-
  Proved: the card of the law 'scholium/scholiumlaw06.DoubleTells' (for every input it returns true, and every argument reads as it did before; the package variables that the row lists are tied to the program's text). No conditions.
-/
import Derived.Test.YtgiloooandiokaaDoorRows
import Derived.Test.YtgiloooandiokaaDoorCards
import Derived.Test.YtgiloooandiokaaDoorTie
import Derived.Test.YtgiloooandiokaaDoorDoor
import Derived.Test.YtgiloooandiokaaDoorDbDoor
import Derived.Test.YtgiloooandiokaaDoorDbLaw
import Derived.Test.YtgiloooandiokaaDoorDbRTake
import Derived.Test.YtgiloooandiokaaDoorDbRPut
import Derived.Test.YtgiloooandiokaaDoorKeep
import Derived.WalkKit
import Derived.ProofKit
import Derived.OpenShut
import Derived.ShutString
import Derived.ChangeOld
import Derived.Below
import Derived.LaidMore
import Derived.Lay
import Derived.SevenTiedAt
namespace Go.Proofs.YtgiloooandiokaaDoor.doubleTells
open Go.ChangeShapes Go.WideShapes Go.ChangeAt Go.RowKit
open Go.ChangeMaps (open_string shut_string)
set_option linter.unusedVariables false

theorem own : ownKnob Tryd.prog.godebug = none := by kernel_rfl
theorem laidOut : laidOutB Tryd.prog = true := by kernel_rfl

/-- A slice of integers that came in. -/
def IsRow (k : IntKind) (w : World) (a : Option Addr) (len cap : Nat) (zs : List Int) : Prop :=
  (a = none ∧ len = 0 ∧ cap = 0 ∧ zs = []) ∨
  ∃ x, a = some x ∧ len ≤ cap ∧ cap ≤ maxLen ∧ zs.length = cap ∧ (∀ i, i < zs.length → w.cell? (x.add i) = some (.int k (zs.getD i 0))) ∧ ∀ n ∈ zs, (Lit.int k n).wf = true

set_option maxHeartbeats 4000000 in
set_option maxRecDepth 100000 in
theorem walk (a0 : ByteArray) (a1 : Bool) (a2 : Int) (a3 : Int) (w : World) (w0 : a0.size ≤ maxLen) (w2 : (Lit.int .u32 a2).wf = true) (w3 : (Lit.int .i64 a3).wf = true) (hS : Shorts w) :
    Calls Tryd.prog 6 #[.string a0, .bool a1, .int .u32 a2, .int .i64 a3] w fun e w' => e = .returned (.bool true) ∧ Below w.heap.size w w' := by
  have hn := bounds_u32 w2
  have hn0 := hn.1
  have hn1 : a2 < 4294967296 := by omega
  have hb3 := bounds_i64 w3
  have HS := Lib.hid hS
  clear hS w2 w3 hn
  go_enter Tryd.func6, Tryd.ntmps6
  go_wp2_with fail
  refine (text_any a0 80 _ (by omega) w0).mono ?_
  rintro e w' ⟨t, _, ht, rfl, rfl⟩
  clear w0
  go_upto_if 23 with fail
  go_cut [0] (fun s W => ∃ u : ByteArray, s = .string u ∧ W = w ∧ u.size ≤ 81)
  case first =>
    cases a1
    · go_wp2_with fail
      go_meet
      exact ⟨_, rfl, rfl, by omega⟩
    · obtain ⟨u, hu⟩ : ∃ u, (⟨#[34]⟩ : ByteArray) ++ t = u := ⟨_, rfl⟩
      have hus : u.size ≤ 81 := by rw [← hu, ByteArray.size_append]; have : (⟨#[34]⟩ : ByteArray).size = 1 := rfl; omega
      go_wp2_with fail
      go_meet
      exact ⟨_, rfl, rfl, hus⟩
  case rest =>
    obtain ⟨u, rfl, rfl, hus⟩ := hcut
    obtain ⟨cap, W1, hrun, hle, hmax, hrd, hbel⟩ := bytes_of u (by omega) wc
    have HL : Hid ((byt u).length = u.size) := byt_len u
    have HY := Lib.hid (byt_byte u)
    have HB := Lib.hid hbel
    have HR := Lib.hid hrd
    clear hrd hbel
    obtain ⟨o, ho⟩ : ∃ o, takeD (byt u) = o := ⟨_, rfl⟩
    obtain ⟨oo, hoo⟩ : ∃ o, putD (byt u) = o := ⟨_, rfl⟩
    have HO := Lib.hid ho
    have HK := Lib.hid hoo
    clear ho hoo
    go_wp2_with fail
    clear hrun
    refine (lend_any _ u.size cap (byt u) W1 HL.out (by omega) HR.out).mono ?_
    rintro e W2 ⟨rfl, ho2, hb2⟩
    rw [HL.out]
    have HO2 := Lib.hid ho2
    have HR2 := Lib.hid (HR.out.below hb2)
    have HX2 := Lib.hid (lnd_rd ho2)
    have HB2 := Lib.hid (below_step HB.out hb2)
    clear ho2 hb2 HR HB
    generalize W1.heap.size = g at *
    go_wp2_with fail
    refine (take_any _ u.size (u.size + 3) (byt u) W2 HL.out (by omega) (by omega) (by omega) HY.out HX2.out (HS.out.below HB2.out) o HO.out).mono ?_
    rintro e W3 ⟨v1, hv1, rfl, hb3'⟩
    have HB3 := Lib.hid hb3'
    have HV1 := Lib.hid hv1
    clear hb3' hv1
    go_wp2_with fail
    refine (refTake_any _ u.size cap (byt u) W3 HL.out hle hmax (by omega) HY.out (HR2.out.below HB3.out) o HO.out).mono ?_
    rintro e W4 ⟨v2, hv2, rfl, hb4⟩
    have HB4 := Lib.hid (below_step HB3.out hb4)
    obtain rfl : v1 = v2 := byt_inj (by rw [HV1.out, hv2])
    clear hb4 hv2 HV1
    generalize tkN o = m at *
    generalize o.isSome = is at *
    go_wp2_with fail
    refine (put_any u W4 (by omega) ((HS.out.below HB2.out).below HB4.out) oo HK.out).mono ?_
    rintro e W5 ⟨p1, hp1, rfl, hb5⟩
    have HB5 := Lib.hid (below_step HB4.out hb5)
    have HP1 := Lib.hid hp1
    clear hb5 hp1
    go_wp2_with fail
    refine (refPut_any u W5 (by omega) oo HK.out).mono ?_
    rintro e W6 ⟨p2, hp2, rfl, hb6⟩
    have HB6 := Lib.hid (below_step HB5.out hb6)
    obtain rfl : p1 = p2 := byt_inj (by rw [HP1.out, hp2])
    clear hb6 hp2 HP1
    generalize oo.isSome = has at *
    go_upto_if 54 with fail
    go_cut [3] (fun s W => ∃ d : Int, s = .int .i64 d ∧ W = W6 ∧ -9223372036854775808 ≤ d ∧ d ≤ 9223372036854775807)
    case first =>
      by_cases h4 : (a3.tmod 4 != 3) = true
      · go_wp2_with fail
        refine (within_any a3 10 W6 (by omega) (by omega) (by omega)).mono ?_
        rintro e w' ⟨rfl, rfl⟩
        go_wp2_with fail
        go_meet
        exact ⟨_, rfl, rfl, by omega, by omega⟩
      · have h4' : (a3.tmod 4 != 3) = false := by simpa using h4
        clear h4
        go_wp2_with fail
        go_meet
        exact ⟨_, rfl, rfl, by omega, by omega⟩
    case rest =>
      obtain ⟨d, rfl, rfl, hd1, hd2⟩ := hcut
      go_wp2_with fail
      refine (hex_any a2 d wc hn0 hn1 ⟨hd1, hd2⟩).mono ?_
      rintro e W7 ⟨x1, hx1, rfl, hb7⟩
      have HB7 := Lib.hid (below_step HB6.out hb7)
      have HX1 := Lib.hid hx1
      clear hb7 hx1
      go_wp2_with fail
      refine (refHex_any a2 d W7 hn0 hn1 ⟨hd1, hd2⟩).mono ?_
      rintro e W8 ⟨x2, hx2, rfl, hb8⟩
      have HB8 := Lib.hid (below_step HB7.out hb8)
      obtain rfl : x1 = x2 := byt_inj (by rw [HX1.out, hx2])
      clear hb8 hx2 HX1
      go_wp2_with fail
      refine (intact_any _ u.size cap g (byt u) W8 HL.out (by omega) (HR2.out.below HB8.out) (HO2.out.below HB8.out)).mono ?_
      rintro e W9 ⟨rfl, hb9⟩
      have HB9 := Lib.hid (below_step HB8.out hb9)
      clear hb9
      go_wp2_with fail
      refine (wakes_any W9 ((HS.out.below HB2.out).below HB9.out)).mono ?_
      rintro e W10 ⟨rfl, hb10⟩
      have HB10 := Lib.hid (below_step HB9.out hb10)
      clear hb10
      go_wp2_with fail
      go_ret
      exact ⟨rfl, below_step HB2.out HB10.out⟩


set_option maxRecDepth 100000 in
theorem lifted (os : Os) (started : os.Started) (H : Type) (enc : TypeId × Value → H) :
    ReturnsInHanded {} Tryd.checked os 6 .any (fun w args => (Rows.doubleTellsSpec.pre enc Tryd.prog Tryd.f6 Rows.doubleTellsRow.domain false w args ∧ laidMetH Tryd.prog Rows.doubleTellsRow.laid w) ∧ sizedMet enc Tryd.prog Tryd.f6 (OpenSpec.ofChange Rows.doubleTellsSpec) false w args)
      (Rows.doubleTellsSpec.post enc Tryd.prog Tryd.f6 false true false false) := by
  refine returns_listed (C := Tryd.checked) (X := fun w _ => laidMetH Tryd.prog Rows.doubleTellsRow.laid w) (fun _ _ _ hh h => h.of_heap hh) own started (by kernel_rfl) Tryd.func6
    (ChangeSpec.witness_shaped (enc := enc) (C := Tryd.checked) (os := os) (X := fun w _ => laidMetH Tryd.prog Rows.doubleTellsRow.laid w) false (World.laidAll Tryd.prog os Rows.doubleTellsRow.laid) #[.string ByteArray.empty, .bool false, .int .u32 0, .int .i64 0] 8 (World.laidAll_os _ _ _)
      (World.shaped_of_ZipB (by kernel_rfl) (by kernel_rfl)) (by kernel_rfl) (by kernel_rfl) (by kernel_rfl)
      (by rw [MakeChecks.laidMetH_plain _ _ _ (by kernel_rfl)]; exact laidMet_laidAll _ (by kernel_rfl) (by kernel_rfl))) ?_
  intro W base args ds gs before hval0 hW hX hsh
  have hval : ∀ (j : Nat) t v, Tryd.f6.params[j]? = some t → args[j]? = some v → Value.okWide Tryd.prog W .any base t v := hval0
  have hW' := hW
  obtain ⟨p, q, hA0, hV, rfl, hfz, hnd⟩ := hW
  have hA : DataW.TrodAll enc Tryd.prog W 0 (fun _ => true) true Tryd.f6.params.toList args.toList ds p := hA0
  rw [Tryd.params6] at hA hval
  obtain ⟨v0, vs0, d0, ds0, p0, q0, hargs, rfl, rfl, h0, r0⟩ := trodAll_cons hA
  obtain ⟨v1, vs1, d1, ds1, p1, q1, rfl, rfl, rfl, h1, r1⟩ := trodAll_cons r0
  obtain ⟨v2, vs2, d2, ds2, p2, q2, rfl, rfl, rfl, h2, r2⟩ := trodAll_cons r1
  obtain ⟨v3, vs3, d3, ds3, p3, q3, rfl, rfl, rfl, h3, r3⟩ := trodAll_cons r2
  obtain ⟨rfl, rfl, rfl⟩ := trodAll_nil r3
  obtain rfl : args = #[v0, v1, v2, v3] := by cases args; simp_all
  obtain ⟨rfl, rfl⟩ := trodVars_none hV
  obtain ⟨a0, rfl, rfl, rfl, w0⟩ := open_string Tryd.underlying9 (hval 0 9 v0 rfl rfl) h0
  obtain ⟨a1, rfl, rfl, rfl⟩ := open_bool Tryd.underlying4 (hval 1 4 v1 rfl rfl) h1
  obtain ⟨a2, rfl, rfl, rfl, w2⟩ := open_int Tryd.underlying32 (hval 2 32 v2 rfl rfl) h2
  obtain ⟨a3, rfl, rfl, rfl, w3⟩ := open_int Tryd.underlying3 (hval 3 3 v3 rfl rfl) h3
  clear hA0 hval0
  refine (walk a0 a1 a2 a3 W w0 w2 w3 (shorts_laid hX)).mono fun e W' ⟨he, bel⟩ => ?_
  subst he
  exact ⟨_, rfl, _, _, _, [], _, [], hW', trodAll_mk1 (shut_bool Tryd.underlying4 _), (trodAll_cons_mk (shut_string Tryd.underlying9 w0) (trodAll_cons_mk (shut_bool Tryd.underlying4 _) (trodAll_cons_mk (shut_int Tryd.underlying32 w2) (trodAll_cons_mk (shut_int Tryd.underlying3 w3) trodAll_mk0)))), rfl, bel.frame _, fun h => by cases h⟩

theorem over : Rows.doubleTellsRow.holds Tryd.pinned (OpenSpec.ofChange Rows.doubleTellsSpec) :=
  OpenClaim.holds_of_wide 6 Tryd.f6 rfl rfl rfl rfl rfl rfl rfl ⟨rfl, rfl, rfl, rfl, rfl⟩ rfl rfl rfl rfl rfl (by kernel_rfl) Tryd.func6 (by kernel_rfl)
    (of_decide_eq_true (by kernel_rfl)) (by unfold Func.isWrapper; first | (rw [if_pos (by decide +kernel)]; kernel_rfl) | (rw [if_neg (by decide +kernel)]; exact ⟨rfl, rfl⟩))
    (fun os started H enc _ => lifted os started H enc)

theorem proved : Rows.DoubleTellsCardSaid :=
  Claim7.holds_tied_plain_at .later [] [.data] true (true, "ab909530bb952c5f780ce0eaafa1f0b2631ff06e5414448791499cdd5477867f") false over (fun _ h => by cases h) (by kernel_rfl) (fun _ h => by cases h) doubleTells_row_tie rfl ⟨rfl, rfl⟩ (by kernel_rfl) rfl
    (fun f fn hf hfn => by
      obtain rfl : f = 6 := Option.some.inj ((show Tryd.prog.funcNamed Rows.doubleTellsRow.func = some 6 by kernel_rfl).symm.trans hf) |>.symm
      obtain rfl : fn = Tryd.f6 := (Option.some.inj (Tryd.func6.symm.trans hfn)).symm
      exact ⟨by kernel_rfl, fun j t ht => by
        rw [Tryd.params6] at ht
        have hm : t ∈ [9, 4, 32, 3] := by simpa using Array.mem_of_getElem? ht
        have hall : ([9, 4, 32, 3].all fun u => !Tryd.prog.wantsStandIn u) = true := by kernel_rfl
        exact (show Tryd.prog.wantsStandIn t = false by simpa using List.all_eq_true.1 hall t hm)⟩)
    (by kernel_rfl)
#print axioms proved
end Go.Proofs.YtgiloooandiokaaDoor.doubleTells
