/-
  Proved: the law 'scholium/scholiumlaw03.SpliceDoes' returns true for every input, and every argument reads as it did before. No conditions.
-/
import Derived.Test.YtegamojidckmcaaRows
import Derived.Test.YtegamojidckmcaaSpRef3
import Derived.WalkKit
import Derived.ProofKit
import Derived.OpenShut
import Derived.ShutString
import Derived.ChangeOld
import Derived.Below
namespace Go.Proofs.Ytegamojidckmcaa.spliceDoes
open Go.ChangeShapes Go.WideShapes Go.ChangeAt Go.RowKit
open Go.ChangeMaps (open_string shut_string)
set_option linter.unusedVariables false

theorem own : ownKnob Try.prog.godebug = none := by kernel_rfl
theorem laidOut : laidOutB Try.prog = true := by kernel_rfl

/-- A slice of integers that came in. -/
def IsRow (k : IntKind) (w : World) (a : Option Addr) (len cap : Nat) (zs : List Int) : Prop :=
  (a = none ∧ len = 0 ∧ cap = 0 ∧ zs = []) ∨
  ∃ x, a = some x ∧ len ≤ cap ∧ cap ≤ maxLen ∧ zs.length = cap ∧ (∀ i, i < zs.length → w.cell? (x.add i) = some (.int k (zs.getD i 0))) ∧ ∀ n ∈ zs, (Lit.int k n).wf = true

set_option maxHeartbeats 8000000 in
set_option maxRecDepth 100000 in
theorem walk (a0 : Option Addr) (len0 cap0 : Nat) (z0 : List Int) (a1 : Option Addr) (len1 cap1 : Nat) (z1 : List Sp) (a2 : Bool) (a3 : Int) (w : World) (w0 : IsRow .u8 w a0 len0 cap0 z0) (w1 : IsSps w a1 len1 cap1 z1) (w3 : (Lit.int .i64 a3).wf = true) :
    Calls Try.prog 5 #[.slice a0 len0 cap0, .slice a1 len1 cap1, .bool a2, .int .i64 a3] w fun e w' => e = .returned (.bool true) ∧ Below w.heap.size w w' := by
  have hb3 := bounds_i64 w3
  obtain ⟨hb3a, hb3b⟩ := hb3
  obtain ⟨hrd, hby, hlen, hnc, hm, hA⟩ := isRow_rd w0
  obtain ⟨hsl, hsr, hs64, hsc, hsm, hsA⟩ := w1
  clear w0
  generalize z0.take len0 = ys at *
  have HS := Lib.hid (And.intro hsl (And.intro hsr (And.intro hs64 hsA)))
  have HRD := Lib.hid (And.intro hrd (And.intro hlen hA))
  clear hrd hby hlen hA hsl hsr hs64 hsA
  go_enter Try.func5, Try.ntmps5
  go_wp2_with fail
  refine (cut_any a0 len0 cap0 100 ys _ HRD.out.2.1 hnc hm (by omega) HRD.out.1 HRD.out.2.2).mono ?_
  rintro e W1 ⟨A, n, cap, rfl, h1, h2, h3, h4, h5, h6⟩
  have hn : n ≤ 100 := by rw [← h1, List.length_take]; omega
  generalize ys.take 100 = zs at *
  clear HRD hnc hm
  have HZ := Lib.hid (And.intro h1 (And.intro h4 (And.intro h5 h6)))
  clear h1 h4 h5 h6
  have hspl : Calls Try.prog 13 #[.slice a1 len1 cap1, .int .i64 (n : Int), .bool a2] W1 (SplP W1 n a2) := by
    cases a2 with
    | true => exact splices_raw a1 len1 cap1 z1 n W1 HS.out.1 hsc hsm (HS.out.2.1.below HZ.out.2.2.2) HS.out.2.2.1
    | false => exact splices_valid a1 len1 cap1 z1 n W1 HS.out.1 hsc hsm (HS.out.2.1.below HZ.out.2.2.2) HS.out.2.2.1 (by omega)
  go_wp2_with fail
  refine hspl.mono ?_
  clear hspl
  rintro e W2 ⟨r, A2, m, cap2, rfl, g1, g2, g3, g4, g5, g6, g7, g8, g9⟩
  subst g1
  obtain ⟨A2', cap2', e2, _, _, g10⟩ := own_form g8
  injection e2 with e2a _ e2b
  subst e2a e2b
  have hb2 := below_step HZ.out.2.2.2 g9
  have HW2 := Lib.hid (And.intro hb2 (And.intro (RdC.own g8) (HZ.out.2.2.1.below g9)))
  have HT : Hid (Texts r ∧ All64 r ∧ (∀ x ∈ r, x.s.size ≤ 20) ∧ (A2 = none → cap2 = 0)) := ⟨fun x hx => by have := g5 x hx; omega, g6, g5, g10⟩
  have HX := Lib.hid (And.intro HZ.out.1 HZ.out.2.1)
  clear g5 g6 g7 g8 g9 g10 hb2 HZ HS
  -- a copy of the splices, lent bytes
  go_wp2_with fail
  refine (copyS_any A2 r.length cap2 r W2 rfl (by omega) HW2.out.2.1).mono ?_
  rintro e W3 ⟨AT, n3, capt, rfl, j1, j2, j3, j4, j5, j6⟩
  subst j1
  have HW3 := Lib.hid (And.intro (below_step HW2.out.1 j6) (And.intro (RdS.below HW2.out.2.1 j6) (And.intro (HW2.out.2.2.below j6) (And.intro j4 j5))))
  clear j4 j5 j6 HW2
  go_wp2_with fail
  refine (lend_any A n cap zs W3 HX.out.1 (by omega) HW3.out.2.2.1).mono ?_
  rintro e W4 ⟨rfl, ho4, hb4⟩
  rw [HX.out.1]
  have HW4 := Lib.hid (And.intro (below_step HW3.out.1 hb4) (And.intro (RdS.below HW3.out.2.1 hb4) (And.intro (HW3.out.2.2.1.below hb4) (And.intro (RdS.below HW3.out.2.2.2.2 hb4) ho4))))
  have HTA := Lib.hid HW3.out.2.2.2.1
  clear ho4 hb4
  have hgl : W3.heap.size = W3.heap.size := rfl
  obtain ⟨g, hg⟩ : ∃ g, g = W3.heap.size := ⟨_, rfl⟩
  rw [← hg] at HW4 ⊢
  clear hg hgl HW3
  have HLX := Lib.hid (lnd_rd HW4.out.2.2.2.2)
  by_cases hv : validF n 0 r = true
  · have HV := Lib.hid hv
    have hsz := small_sum hn g2 HT.out.2.2.1 hv r.length
    rw [List.take_length] at hsz
    have hsz2 : (n : Int) + sumG r ≤ 65536 := by omega
    have HSZ := Lib.hid hsz2
    clear hv hsz hsz2
    go_wp2_with fail
    refine (do_good (some ⟨g, 0, none⟩) n (n + 3) zs AT r.length capt r W4 HX.out.1 (by omega) (by omega) (fun h => by cases h) HLX.out (by omega) rfl j2 j3 HT.out.2.1 HW4.out.2.2.2.1 (by omega) HT.out.1 HV.out HSZ.out).mono ?_
    rintro e U1 ⟨A5, n5, cap5, rfl, k1, k2, k3, k4, k5, k6⟩
    have HU1 := Lib.hid (And.intro k1 (And.intro k5 k6))
    clear k1 k4 k5 k6
    go_wp2_with fail
    refine (refSplice_good A n cap zs A2 r.length cap2 r U1 HX.out.1 h2 h3 HX.out.2 (HW4.out.2.2.1.below HU1.out.2.2) (by omega) rfl g3 g4 HT.out.2.1 (RdS.below HW4.out.2.1 HU1.out.2.2) (by omega) HV.out HSZ.out).mono ?_
    rintro e U2 ⟨A6, n6, cap6, rfl, l1, l2, l3, l4, l5, l6⟩
    obtain rfl : n5 = n6 := by rw [← l1, HU1.out.1]
    have HU2 := Lib.hid (And.intro (HU1.out.2.1.below l6) (And.intro l5 (below_step HU1.out.2.2 l6)))
    have HL1 := Lib.hid l1
    have hn5 : n5 ≤ 1000000000 := by
      have h := do_len zs r 0 (by omega) (by rw [HX.out.1]; exact HV.out)
      rw [l1, HX.out.1] at h
      have := HSZ.out
      omega
    clear l1 l4 l5 l6 HU1
    go_wp2_with fail
    refine (sameB_any A5 A6 n5 cap5 cap6 _ U2 HL1.out hn5 k2 l2 HU2.out.1 HU2.out.2.1).mono ?_
    rintro e VD ⟨rfl, hb⟩
    have HBD := Lib.hid (below_step HU2.out.2.2 hb)
    clear hb HU2 HL1
    -- the rest of the first test
    go_wp2_with fail
    refine (valid_any AT r.length capt r n VD rfl j2 j3 HT.out.2.1 (RdS.below HW4.out.2.2.2.1 HBD.out) (by omega)).mono ?_
    rw [HV.out]
    rintro e V1 ⟨rfl, hb⟩
    have HB1 := Lib.hid (below_step HBD.out hb)
    clear hb
    go_wp2_with fail
    refine (refValid_any A2 r.length cap2 r n V1 rfl g3 g4 HT.out.2.1 (RdS.below HW4.out.2.1 HB1.out) (by omega)).mono ?_
    rw [HV.out]
    rintro e V2 ⟨rfl, hb⟩
    have HB2 := Lib.hid (below_step HB1.out hb)
    clear hb
    go_wp2_with fail
    refine (merge_any AT r.length capt r V2 rfl (by omega) (RdS.below HW4.out.2.2.2.1 HB2.out) HTA.out j2).mono ?_
    rintro e V3 ⟨AM, nm, capm, rfl, q1, q2, q3, q4, q5, hb⟩
    rw [mergeUp_len] at q1
    subst q1
    have HB3 := Lib.hid (below_step HB2.out hb)
    have HM3 := Lib.hid q5
    clear hb q4 q5
    go_wp2_with fail
    refine (refMerge_any A2 r.length cap2 r V3 rfl g3 (RdS.below HW4.out.2.1 HB3.out) (by omega)).mono ?_
    rintro e V4 ⟨AN, nn, capn, rfl, q1, p2, p3, q4, q5, hb⟩
    rw [mergeUp_len] at q1
    subst q1
    have HB4 := Lib.hid (below_step HB3.out hb)
    have HM4 := Lib.hid (And.intro (RdS.below HM3.out hb) q5)
    clear hb q4 q5 HM3
    go_wp2_with fail
    refine (sameS_any AM AN r.length capm capn _ V4 (mergeUp_len _ _) (by omega) q2 p2 HM4.out.1 HM4.out.2).mono ?_
    rintro e V5 ⟨rfl, hb⟩
    have HB5 := Lib.hid (below_step HB4.out hb)
    clear hb
    go_wp2_with fail
    refine (sameS_any A2 AT r.length cap2 capt r V5 rfl (by omega) g3 j2 (RdS.below HW4.out.2.1 HB5.out) (RdS.below HW4.out.2.2.2.1 HB5.out)).mono ?_
    rintro e V6 ⟨rfl, hb⟩
    have HB6 := Lib.hid (below_step HB5.out hb)
    clear hb
    go_wp2_with fail
    refine (intact_any A n cap g zs V6 HX.out.1 (by omega) (HW4.out.2.2.1.below HB6.out) (HW4.out.2.2.2.2.below HB6.out)).mono ?_
    rintro e V7 ⟨rfl, hb⟩
    have HB7 := Lib.hid (below_step HB6.out hb)
    clear hb
    go_wp2_with fail
    refine (refValid_any A2 r.length cap2 r n V7 rfl g3 g4 HT.out.2.1 (RdS.below HW4.out.2.1 HB7.out) (by omega)).mono ?_
    rw [HV.out]
    rintro e V8 ⟨rfl, hb⟩
    have HB8 := Lib.hid (below_step HB7.out hb)
    clear hb
    go_wp2_with fail
    refine (within_nat a3 (n + 1) V8 (by omega) (by omega) (by omega)).mono ?_
    rintro e V9 ⟨o, ho, rfl, rfl⟩
    have hmo := refMap_eq (n := (n : Int)) (o : Int) 0 HV.out
    rw [Int.add_zero] at hmo
    obtain ⟨mo, hmo2⟩ : ∃ mo, mapF (o : Int) (o : Int) r = mo := ⟨_, rfl⟩
    rw [hmo2] at hmo
    have HMO := Lib.hid (And.intro hmo2 hmo.symm)
    clear hmo hmo2
    go_wp2_with fail
    refine (map_any AT r.length capt r (o : Int) n V8 rfl j2 j3 (RdS.below HW4.out.2.2.2.1 HB8.out) (by omega) (by omega) HT.out.1 HV.out (by omega) (by omega)).mono ?_
    rw [HMO.out.1]
    rintro e V10 ⟨rfl, hb⟩
    have HB10 := Lib.hid (below_step HB8.out hb)
    clear hb
    unfold mapE
    go_wp2_with fail
    refine (refMap_any A2 r.length cap2 r (o : Int) n V10 rfl g3 g4 (RdS.below HW4.out.2.1 HB10.out) (by omega) (by omega) HT.out.2.2.1 HV.out (by omega) (by omega)).mono ?_
    rw [HMO.out.2]
    rintro e V11 ⟨rfl, hb⟩
    have HB11 := Lib.hid (below_step HB10.out hb)
    clear hb
    unfold mapE
    generalize mo.getD 0 = x1 at *
    generalize mo.isSome = x2 at *
    cases x2
    all_goals
      go_wp2_with fail
      refine (wakes_any V11).mono ?_
      rintro e V12 ⟨rfl, hb⟩
      have HB12 := Lib.hid (below_step (below_step HW4.out.1 HB11.out) hb)
      clear hb
      go_wp2
      go_ret
      exact ⟨rfl, HB12.out⟩
  · have hv' : validF n 0 r = false := by simpa using hv
    have HV := Lib.hid hv'
    clear hv hv'
    go_wp2_with fail
    refine (do_bad (some ⟨g, 0, none⟩) n (n + 3) zs AT r.length capt r W4 HX.out.1 (by omega) rfl j2 j3 HT.out.2.1 HW4.out.2.2.2.1 HV.out).mono ?_
    rintro e U1 ⟨rfl, k6⟩
    have HU1 := Lib.hid k6
    clear k6
    go_wp2_with fail
    refine (refSplice_bad A n cap zs A2 r.length cap2 r U1 HX.out.1 (by omega) rfl g3 g4 HT.out.2.1 (RdS.below HW4.out.2.1 HU1.out) HV.out).mono ?_
    rintro e U2 ⟨rfl, k6⟩
    have HU2 := Lib.hid (below_step HU1.out k6)
    clear k6
    go_wp2_with fail
    refine (sameB_any none none 0 0 0 [] U2 rfl (by omega) (by omega) (by omega) (RdB.nil _ _) (RdB.nil _ _)).mono ?_
    rintro e VD ⟨rfl, hb⟩
    have HBD := Lib.hid (below_step HU2.out hb)
    clear hb HU2
    -- the rest of the first test
    go_wp2_with fail
    refine (valid_any AT r.length capt r n VD rfl j2 j3 HT.out.2.1 (RdS.below HW4.out.2.2.2.1 HBD.out) (by omega)).mono ?_
    rw [HV.out]
    rintro e V1 ⟨rfl, hb⟩
    have HB1 := Lib.hid (below_step HBD.out hb)
    clear hb
    go_wp2_with fail
    refine (refValid_any A2 r.length cap2 r n V1 rfl g3 g4 HT.out.2.1 (RdS.below HW4.out.2.1 HB1.out) (by omega)).mono ?_
    rw [HV.out]
    rintro e V2 ⟨rfl, hb⟩
    have HB2 := Lib.hid (below_step HB1.out hb)
    clear hb
    go_wp2_with fail
    refine (merge_any AT r.length capt r V2 rfl (by omega) (RdS.below HW4.out.2.2.2.1 HB2.out) HTA.out j2).mono ?_
    rintro e V3 ⟨AM, nm, capm, rfl, q1, q2, q3, q4, q5, hb⟩
    rw [mergeUp_len] at q1
    subst q1
    have HB3 := Lib.hid (below_step HB2.out hb)
    have HM3 := Lib.hid q5
    clear hb q4 q5
    go_wp2_with fail
    refine (refMerge_any A2 r.length cap2 r V3 rfl g3 (RdS.below HW4.out.2.1 HB3.out) (by omega)).mono ?_
    rintro e V4 ⟨AN, nn, capn, rfl, q1, p2, p3, q4, q5, hb⟩
    rw [mergeUp_len] at q1
    subst q1
    have HB4 := Lib.hid (below_step HB3.out hb)
    have HM4 := Lib.hid (And.intro (RdS.below HM3.out hb) q5)
    clear hb q4 q5 HM3
    go_wp2_with fail
    refine (sameS_any AM AN r.length capm capn _ V4 (mergeUp_len _ _) (by omega) q2 p2 HM4.out.1 HM4.out.2).mono ?_
    rintro e V5 ⟨rfl, hb⟩
    have HB5 := Lib.hid (below_step HB4.out hb)
    clear hb
    go_wp2_with fail
    refine (sameS_any A2 AT r.length cap2 capt r V5 rfl (by omega) g3 j2 (RdS.below HW4.out.2.1 HB5.out) (RdS.below HW4.out.2.2.2.1 HB5.out)).mono ?_
    rintro e V6 ⟨rfl, hb⟩
    have HB6 := Lib.hid (below_step HB5.out hb)
    clear hb
    go_wp2_with fail
    refine (intact_any A n cap g zs V6 HX.out.1 (by omega) (HW4.out.2.2.1.below HB6.out) (HW4.out.2.2.2.2.below HB6.out)).mono ?_
    rintro e V7 ⟨rfl, hb⟩
    have HB7 := Lib.hid (below_step HB6.out hb)
    clear hb
    go_wp2_with fail
    refine (refValid_any A2 r.length cap2 r n V7 rfl g3 g4 HT.out.2.1 (RdS.below HW4.out.2.1 HB7.out) (by omega)).mono ?_
    rw [HV.out]
    rintro e V8 ⟨rfl, hb⟩
    have HB8 := Lib.hid (below_step HB7.out hb)
    clear hb
    go_wp2_with fail
    refine (wakes_any V8).mono ?_
    rintro e V12 ⟨rfl, hb⟩
    have HB12 := Lib.hid (below_step (below_step HW4.out.1 HB8.out) hb)
    clear hb
    go_wp2
    go_ret
    exact ⟨rfl, HB12.out⟩


set_option maxRecDepth 100000 in
theorem lifted (os : Os) (started : os.Started) (H : Type) (enc : TypeId × Value → H) :
    ReturnsInHanded {} Try.checked os 5 .any (Rows.spliceDoesSpec.pre6 enc Try.prog Try.f5 Rows.spliceDoesRow.domain false) (Rows.spliceDoesSpec.post enc Try.prog Try.f5 false true false false) := by
  refine returnsInHanded_of_change (C := Try.checked) own started (by kernel_rfl) Try.func5
    (ChangeSpec.witness6 (enc := enc) (C := Try.checked) false ⟨#[], #[.slice none 0 0, .slice none 0 0, .bool false, .int .i64 0], []⟩ 8 (by kernel_rfl) (by kernel_rfl) (by kernel_rfl) (by kernel_rfl)) ?_
  intro W base args ds gs before hval0 hW hcnd _
  have hval : ∀ (j : Nat) t v, Try.f5.params[j]? = some t → args[j]? = some v → Value.okWide Try.prog W .any base t v := hval0
  have hW' := hW
  obtain ⟨p, q, hA0, hV, rfl, hfz, hnd⟩ := hW
  have hA : DataW.TrodAll enc Try.prog W 0 (fun _ => true) true Try.f5.params.toList args.toList ds p := hA0
  rw [Try.params5] at hA hval
  obtain ⟨v0, vs0, d0, ds0, p0, q0, hargs, rfl, rfl, h0, r0⟩ := trodAll_cons hA
  obtain ⟨v1, vs1, d1, ds1, p1, q1, rfl, rfl, rfl, h1, r1⟩ := trodAll_cons r0
  obtain ⟨v2, vs2, d2, ds2, p2, q2, rfl, rfl, rfl, h2, r2⟩ := trodAll_cons r1
  obtain ⟨v3, vs3, d3, ds3, p3, q3, rfl, rfl, rfl, h3, r3⟩ := trodAll_cons r2
  obtain ⟨rfl, rfl, rfl⟩ := trodAll_nil r3
  obtain rfl : args = #[v0, v1, v2, v3] := by cases args; simp_all
  obtain ⟨rfl, rfl⟩ := trodVars_none hV
  obtain ⟨a0, len0, cap0, rfl⟩ := okWide_slice Try.underlying23 (hval 0 23 v0 rfl rfl)
  have k0 := h0
  have lt0 : ∀ x ∈ p0, x.block < W.heap.size := by obtain ⟨m, hm⟩ := k0; exact DataW.trod_lt m _ _ _ hm
  obtain ⟨z0, w0⟩ : ∃ zs, IsRow .u8 W a0 len0 cap0 zs := by
    obtain ⟨fuel, hf⟩ := h0
    rcases open_ints Try.underlying23 Try.underlying5 (by kernel_rfl) hf with ⟨hcs, _⟩ | ⟨x, l, c, zs, hcs, _, hl, hm, hz, _, hcell, hwz⟩
    · simp [Value.cells] at hcs
      obtain ⟨rfl, rfl, rfl⟩ := hcs
      exact ⟨[], .inl ⟨rfl, rfl, rfl, rfl⟩⟩
    · simp [Value.cells] at hcs
      obtain ⟨rfl, rfl, rfl⟩ := hcs
      exact ⟨zs, .inr ⟨_, rfl, hl, hm, by simpa using hz, hcell, hwz⟩⟩
  obtain ⟨a1, len1, cap1, rfl⟩ := okWide_slice Try.underlying29 (hval 1 29 v1 rfl rfl)
  have k1 := h1
  have lt1 : ∀ x ∈ p1, x.block < W.heap.size := by obtain ⟨m, hm⟩ := k1; exact DataW.trod_lt m _ _ _ hm
  obtain ⟨z1, w1⟩ := open_splices h1
  obtain ⟨a2, rfl, rfl, rfl⟩ := open_bool Try.underlying4 (hval 2 4 v2 rfl rfl) h2
  obtain ⟨a3, rfl, rfl, rfl, w3⟩ := open_int Try.underlying3 (hval 3 3 v3 rfl rfl) h3
  clear hA0 hval0
  refine (walk a0 len0 cap0 z0 a1 len1 cap1 z1 a2 a3 W w0 w1 w3).mono fun e W' ⟨he, bel⟩ => ?_
  subst he
  exact ⟨_, rfl, _, _, _, [], _, [], hW', trodAll_mk1 (shut_bool Try.underlying4 _), (trodAll_cons_mk (Below.trod laidOut (by kernel_rfl) (of_decide_eq_true (by kernel_rfl)) k0 bel lt0) (trodAll_cons_mk (Below.trod laidOut (by kernel_rfl) (of_decide_eq_true (by kernel_rfl)) k1 bel lt1) (trodAll_cons_mk (shut_bool Try.underlying4 _) (trodAll_cons_mk (shut_int Try.underlying3 w3) trodAll_mk0)))), rfl, bel.frame _, fun h => by cases h⟩

theorem over : Rows.spliceDoesRow.holds Try.pinned (OpenSpec.ofChange Rows.spliceDoesSpec) :=
  OpenClaim.holds_of_wide 5 Try.f5 rfl rfl rfl rfl rfl rfl rfl ⟨rfl, rfl, rfl, rfl, rfl⟩ rfl rfl rfl rfl rfl (by kernel_rfl) Try.func5 (by kernel_rfl)
    (of_decide_eq_true (by kernel_rfl)) (by unfold Func.isWrapper; first | (rw [if_pos (by decide +kernel)]; kernel_rfl) | (rw [if_neg (by decide +kernel)]; exact ⟨rfl, rfl⟩))
    (fun os started H enc _ => lifted os started H enc)

theorem proved : Rows.SpliceDoesSaid := over
#print axioms proved
end Go.Proofs.Ytegamojidckmcaa.spliceDoes
