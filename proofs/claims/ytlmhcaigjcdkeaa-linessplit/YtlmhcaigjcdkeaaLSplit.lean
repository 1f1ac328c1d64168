/-
  Proved: the law 'scholium/scholiumlaw02.LinesSplit' returns true for every input, and every argument reads as it did before. No conditions.
-/
import Derived.Test.YtlmhcaigjcdkeaaRows
import Derived.Test.YtlmhcaigjcdkeaaRef
import Derived.WalkKit
import Derived.ProofKit
import Derived.OpenShut
import Derived.ShutString
import Derived.ChangeOld
import Derived.Below
namespace Go.Proofs.Ytlmhcaigjcdkeaa.linesSplit
open Go.ChangeShapes Go.WideShapes Go.ChangeAt Go.RowKit
open Go.ChangeMaps (open_string shut_string)
set_option linter.unusedVariables false

theorem own : ownKnob Try.prog.godebug = none := by kernel_rfl
theorem laidOut : laidOutB Try.prog = true := by kernel_rfl

/-- WHAT THE WALK IS TOLD OF A SLICE OF INTEGERS THAT CAME IN: it is nil; or it leads to a row of 'cap' cells, the numbers 'zs' (the first 'len' are its elements, the rest its spare room), each fitting its kind. -/
def IsRow (k : IntKind) (w : World) (a : Option Addr) (len cap : Nat) (zs : List Int) : Prop :=
  (a = none ∧ len = 0 ∧ cap = 0 ∧ zs = []) ∨
  ∃ x, a = some x ∧ len ≤ cap ∧ cap ≤ maxLen ∧ zs.length = cap ∧ (∀ i, i < zs.length → w.cell? (x.add i) = some (.int k (zs.getD i 0))) ∧ ∀ n ∈ zs, (Lit.int k n).wf = true

def OffP (o : Int) (s : Value) (W W0 : World) : Prop := s = .int .i64 o ∧ W = W0 ∧ -9223372036854775808 ≤ o ∧ o ≤ 9223372036854775807

set_option maxHeartbeats 8000000 in
set_option maxRecDepth 100000 in
theorem walk (a0 : Option Addr) (len0 cap0 : Nat) (z0 : List Int) (a1 : Int) (w : World) (w0 : IsRow .u8 w a0 len0 cap0 z0) (w1 : (Lit.int .i64 a1).wf = true) :
    Calls Try.prog 5 #[.slice a0 len0 cap0, .int .i64 a1] w fun e w' => e = .returned (.bool true) ∧ Below w.heap.size w w' := by
  have hb1 := bounds_i64 w1
  obtain ⟨hb1a, hb1b⟩ := hb1
  obtain ⟨hrd, hby, hlen, hnc, hm, hA⟩ := isRow_rd w0
  clear w0
  generalize z0.take len0 = ys at *
  have HRD := Lib.hid hrd
  have HBY := Lib.hid hby
  have HLEN := Lib.hid hlen
  have HA := Lib.hid hA
  clear hrd hby hlen hA
  go_enter Try.func5, Try.ntmps5
  go_wp2_with fail
  refine (cut_any a0 len0 cap0 200 ys _ HLEN.out hnc hm (by omega) HRD.out HA.out).mono ?_
  rintro e W1 ⟨A, n, cap, rfl, h1, h2, h3, h4, h5, h6⟩
  have hby2 := HBY.out.take 200
  have hn : n ≤ 200 := by rw [← h1, List.length_take]; omega
  generalize ys.take 200 = zs at *
  clear HRD HBY HLEN HA hnc hm
  have HL := Lib.hid h1
  have HA := Lib.hid h4
  have HR := Lib.hid h5
  have HB := Lib.hid h6
  have HBY := Lib.hid hby2
  clear h1 h4 h5 h6 hby2
  go_wp2_with fail
  refine (lend_any A n cap zs W1 HL.out (by omega) HR.out).mono ?_
  rintro e W2 ⟨rfl, ho2, hb2⟩
  rw [HL.out]
  have HO2 := Lib.hid ho2
  have HR2 := Lib.hid (HR.out.below hb2)
  have HX2 := Lib.hid (lnd_rd ho2)
  have HB2 := Lib.hid (below_step HB.out hb2)
  clear ho2 hb2 HR HB
  generalize W1.heap.size = g at *
  go_wp2_with fail
  refine (split_any _ n (n + 3) zs W2 HL.out (by omega) (by omega) HBY.out HX2.out (fun h => by cases h) (by omega)).mono ?_
  rintro e W3 ⟨AL, m, capl, rfl, g1, g2, g3, g4, g5⟩
  have hm : m ≤ n := by rw [← g1, ← HL.out]; exact split_len zs
  have HML := Lib.hid g1
  have HRL := Lib.hid g4
  have HB3 := Lib.hid (below_step HB2.out g5)
  have HR3 := Lib.hid (HR2.out.below g5)
  have HX3 := Lib.hid (HX2.out.below g5)
  have HO3 := Lib.hid (HO2.out.below g5)
  have HSM := Lib.hid (split_small zs (by rw [HL.out]; omega))
  clear g1 g4 g5 HR2 HX2 HO2 HB2
  go_wp2_with fail
  refine (refSplit_any A n cap zs W3 HL.out h2 h3 HBY.out HR3.out HA.out (by omega)).mono ?_
  rintro e W4 ⟨AM, m', capm, rfl, g1, k2, k3, g4, g5⟩
  obtain rfl : m = m' := by rw [← g1, HML.out]
  have HRM := Lib.hid g4
  have HB4 := Lib.hid (below_step HB3.out g5)
  have HR4 := Lib.hid (HR3.out.below g5)
  have HX4 := Lib.hid (HX3.out.below g5)
  have HO4 := Lib.hid (HO3.out.below g5)
  have HRL4 := Lib.hid (HRL.out.below g5)
  clear g1 g4 g5 HR3 HX3 HO3 HB3 HRL
  go_wp2_with fail
  refine (break_any _ n (n + 3) zs W4 HL.out (by omega) (by omega) HBY.out HX4.out (fun h => by cases h) (by omega)).mono ?_
  rintro e W5 ⟨rfl, q5⟩
  have HQ5 := Lib.hid q5
  clear q5
  go_wp2_with fail
  refine (refBreak_any A n cap zs W5 HL.out h2 h3 HBY.out (HR4.out.below HQ5.out) HA.out (by omega)).mono ?_
  rintro e W6 ⟨rfl, q6⟩
  have hq := below_step HQ5.out q6
  have HB6 := Lib.hid (below_step HB4.out hq)
  have HR6 := Lib.hid (HR4.out.below hq)
  have HX6 := Lib.hid (HX4.out.below hq)
  have HO6 := Lib.hid (HO4.out.below hq)
  have HRL6 := Lib.hid (HRL4.out.below hq)
  have HRM6 := Lib.hid (HRM.out.below hq)
  clear hq q6 HQ5 HB4 HR4 HX4 HO4 HRL4 HRM
  generalize strOfNums (brkF zs) = sb at *
  go_upto_if 35 with fail
  go_cut [1] (fun s W => ∃ o, OffP o s W W6)
  case first =>
    by_cases h4 : (a1.tmod 4 != 3) = true
    · go_wp2_with fail
      refine (within_any a1 (n + 2) W6 (by omega) (by omega) (by omega)).mono ?_
      rintro e w' ⟨rfl, rfl⟩
      go_wp2_with fail
      go_meet
      have hm1 := Int.emod_nonneg a1 (show (n : Int) + 2 ≠ 0 by omega)
      have hm2 := Int.emod_lt_of_pos a1 (show (0 : Int) < (n : Int) + 2 by omega)
      exact ⟨_, rfl, rfl, by omega, by omega⟩
    · have h4' : (a1.tmod 4 != 3) = false := by simpa using h4
      clear h4
      go_wp2_with fail
      go_meet
      exact ⟨_, rfl, rfl, by omega, by omega⟩
  case rest =>
    obtain ⟨o, rfl, rfl, ho1, ho2⟩ := hcut
    go_wp2_with fail
    refine (at_any AL m capl (splitF zs) o wc HML.out g2 (by omega) (by omega) HSM.out HRL6.out).mono ?_
    rintro e V1 ⟨rfl, nq, rfl⟩
    go_wp2_with fail
    refine (refAt_any AM m capm (splitF zs) o _ HML.out k2 (by omega) (by omega) HSM.out (HRM6.out.draws nq)).mono ?_
    rintro e V2 ⟨rfl, nq2, rfl⟩
    generalize (atF (splitF zs) o).1 = x1 at *
    generalize (atF (splitF zs) o).2 = x2 at *
    go_wp2
    go_loopw [55] (fun i W => ∃ j : Nat, j ≤ m ∧ i = .int .i64 (j : Int) ∧ Hid (Below wc.heap.size wc W)) (fun i _ => m - (intOf i).toNat)
    case atStart => exact ⟨0, by omega, rfl, below_draws (Below.refl _ _) _⟩
    case round =>
      obtain ⟨j, hj, rfl, HW⟩ := hrel
      obtain ⟨wo, hwo⟩ : ∃ x, x = wr := ⟨_, rfl⟩
      subst hwo
      by_cases hlt : j < m
      · have hlt' : j < (splitF zs).length := by rw [HML.out]; exact hlt
        have hbd := split_bd zs j hlt'
        rw [HL.out] at hbd
        obtain ⟨bL, offL, rfl, hbl, hc⟩ := (HRL6.out.below HW.out).addr (by omega)
        obtain ⟨hc0, hc1, hc2⟩ := hc j hlt'
        obtain ⟨bM, offM, rfl, hbm, hd⟩ := (HRM6.out.below HW.out).addr (by omega)
        obtain ⟨hd0, hd1, hd2⟩ := hd j hlt'
        obtain ⟨b, off, rfl, _⟩ := HR6.out.addr (by rw [HL.out]; omega)
        have HRW := Lib.hid (HR6.out.below HW.out)
        have HXW := Lib.hid (HX6.out.below HW.out)
        clear hc hd hlt'
        generalize lnAt (splitF zs) j = l at *
        obtain ⟨hq1, hq2, hq3, hq4⟩ := hbd
        obtain ⟨ji, hji⟩ : ∃ ji, indF zs l = ji := ⟨_, rfl⟩
        obtain ⟨vb, hvb⟩ : ∃ vb, blkF zs l = vb := ⟨_, rfl⟩
        have HJI := Lib.hid hji
        have HVB := Lib.hid hvb
        clear hji hvb
        have hneq := refline_neq (l.f : Int) (l.t : Int) (l.n : Int)
        have hgd := refline_guard
        have dj : (j : Int) < (m : Int) := by omega
        go_wp2_with fail
        go_region_held3 (fun w' => w'.cell? ⟨bL, offL + j * 3, none⟩ = some (.int .i64 (l.f : Int)) ∧ w'.cell? ⟨bL, offL + j * 3 + 1, none⟩ = some (.int .i64 (l.t : Int)) ∧ w'.cell? ⟨bL, offL + j * 3 + 2, none⟩ = some (.int .i64 (l.n : Int)) ∧ w'.cell? ⟨bM, offM + j * 3, none⟩ = some (.int .i64 (l.f : Int)) ∧ w'.cell? ⟨bM, offM + j * 3 + 1, none⟩ = some (.int .i64 (l.t : Int)) ∧ w'.cell? ⟨bM, offM + j * 3 + 2, none⟩ = some (.int .i64 (l.n : Int)) ∧ Below wo.heap.size wo w')
          (first | exact ⟨cell_keep (Below.refl _ _) hc0, cell_keep (Below.refl _ _) hc1, cell_keep (Below.refl _ _) hc2, cell_keep (Below.refl _ _) hd0, cell_keep (Below.refl _ _) hd1, cell_keep (Below.refl _ _) hd2, (Below.refl _ _)⟩ | exact ⟨cell_keep (Below.refl _ _).drew hc0, cell_keep (Below.refl _ _).drew hc1, cell_keep (Below.refl _ _).drew hc2, cell_keep (Below.refl _ _).drew hd0, cell_keep (Below.refl _ _).drew hd1, cell_keep (Below.refl _ _).drew hd2, (Below.refl _ _).drew⟩ | exact ⟨cell_keep HQ1.out hc0, cell_keep HQ1.out hc1, cell_keep HQ1.out hc2, cell_keep HQ1.out hd0, cell_keep HQ1.out hd1, cell_keep HQ1.out hd2, HQ1.out⟩ | exact ⟨cell_keep HQ2.out hc0, cell_keep HQ2.out hc1, cell_keep HQ2.out hc2, cell_keep HQ2.out hd0, cell_keep HQ2.out hd1, cell_keep HQ2.out hd2, HQ2.out⟩ | exact ⟨cell_keep HQ3.out hc0, cell_keep HQ3.out hc1, cell_keep HQ3.out hc2, cell_keep HQ3.out hd0, cell_keep HQ3.out hd1, cell_keep HQ3.out hd2, HQ3.out⟩ | exact ⟨cell_keep HQ4.out hc0, cell_keep HQ4.out hc1, cell_keep HQ4.out hc2, cell_keep HQ4.out hd0, cell_keep HQ4.out hd1, cell_keep HQ4.out hd2, HQ4.out⟩)
          (first
            | (go_at_call 10; refine (indent_any g 0 n (n + 3) zs l wo.drew HL.out (by omega) (by omega) (HXW.out.below ((Below.refl _ _).drew)) (by omega) (by omega) _ HJI.out).mono ?_; rintro e v1 ⟨rfl, hb⟩; have HQ1 := Lib.hid (below_step ((Below.refl _ _).drew) hb); clear hb)
            | (go_at_call 20; refine (refIndent_any b off n cap zs l v1 HL.out h2 (by omega) (HRW.out.below HQ1.out) (by omega) (by omega) _ HJI.out).mono ?_; rintro e v2 ⟨rfl, hb⟩; have HQ2 := Lib.hid (below_step HQ1.out hb); clear hb)
            | (go_at_call 11; refine (blank_any g 0 n (n + 3) zs l v2 HL.out (by omega) (by omega) (HXW.out.below HQ2.out) (by omega) (by omega) _ HVB.out).mono ?_; rintro e v3 ⟨rfl, hb⟩; have HQ3 := Lib.hid (below_step HQ2.out hb); clear hb)
            | (go_at_call 21; refine (refBlank_any b off n cap zs l v3 HL.out h2 (by omega) (HRW.out.below HQ3.out) (by omega) (by omega) _ HVB.out).mono ?_; rintro e v4 ⟨rfl, hb⟩; have HQ4 := Lib.hid (below_step HQ3.out hb); clear hb))
        go_wp2
        go_roundw
        case rel => exact ⟨j + 1, by omega, by go_num, below_step HW.out HQ4.out⟩
        case measure => simp [intOf]; omega
      · obtain rfl : j = m := by omega
        have HBW := Lib.hid (below_step HB6.out HW.out)
        have HRW := Lib.hid (HR6.out.below HW.out)
        have HOW := Lib.hid (HO6.out.below HW.out)
        go_wp2_with fail
        refine (intact_any A n cap g zs _ HL.out (by omega) HRW.out HOW.out).mono ?_
        rintro e V3 ⟨rfl, hb3⟩
        have HB8 := Lib.hid (below_step HBW.out hb3)
        clear hb3
        go_wp2_with (go_at_call 13; refine (wakes_any _).mono ?_; rintro e w9 ⟨rfl, hb9⟩)
        go_ret
        exact ⟨rfl, below_step HB8.out hb9⟩

/-! ### THE ROW's STEP: WRITTEN OUT: LEAVE IT -/
set_option maxRecDepth 100000 in
theorem lifted (os : Os) (started : os.Started) (H : Type) (enc : TypeId × Value → H) :
    ReturnsInHanded {} Try.checked os 5 .any (Rows.linesSplitSpec.pre6 enc Try.prog Try.f5 Rows.linesSplitRow.domain false) (Rows.linesSplitSpec.post enc Try.prog Try.f5 false true false false) := by
  refine returnsInHanded_of_change (C := Try.checked) own started (by kernel_rfl) Try.func5
    (ChangeSpec.witness6 (enc := enc) (C := Try.checked) false ⟨#[], #[.slice none 0 0, .int .i64 0], []⟩ 8 (by kernel_rfl) (by kernel_rfl) (by kernel_rfl) (by kernel_rfl)) ?_
  intro W base args ds gs before hval0 hW hcnd _
  have hval : ∀ (j : Nat) t v, Try.f5.params[j]? = some t → args[j]? = some v → Value.okWide Try.prog W .any base t v := hval0
  have hW' := hW
  obtain ⟨p, q, hA0, hV, rfl, hfz, hnd⟩ := hW
  have hA : DataW.TrodAll enc Try.prog W 0 (fun _ => true) true Try.f5.params.toList args.toList ds p := hA0
  rw [Try.params5] at hA hval
  obtain ⟨v0, vs0, d0, ds0, p0, q0, hargs, rfl, rfl, h0, r0⟩ := trodAll_cons hA
  obtain ⟨v1, vs1, d1, ds1, p1, q1, rfl, rfl, rfl, h1, r1⟩ := trodAll_cons r0
  obtain ⟨rfl, rfl, rfl⟩ := trodAll_nil r1
  obtain rfl : args = #[v0, v1] := by cases args; simp_all
  obtain ⟨rfl, rfl⟩ := trodVars_none hV
  obtain ⟨a0, len0, cap0, rfl⟩ := okWide_slice Try.underlying23 (hval 0 23 v0 rfl rfl)
  have k0 := h0
  have lt0 : ∀ x ∈ p0, x.block < W.heap.size := by obtain ⟨m, hm⟩ := k0; exact DataW.trod_lt m _ _ _ hm
  obtain ⟨z0, w0⟩ : ∃ zs, IsRow .u8 W a0 len0 cap0 zs := by
    obtain ⟨fuel, hf⟩ := h0
    rcases open_ints Try.underlying23 Try.underlying5 (by kernel_rfl) hf with ⟨hcs, _⟩ | ⟨x, l, c, zs, hcs, _, hl, hm, hz, _, hcell, hwz⟩
    · simp [Value.cells] at hcs
      obtain ⟨rfl, rfl, rfl⟩ := hcs
      exact ⟨[], .inl ⟨rfl, rfl, rfl, rfl⟩⟩
    · simp [Value.cells] at hcs
      obtain ⟨rfl, rfl, rfl⟩ := hcs
      exact ⟨zs, .inr ⟨_, rfl, hl, hm, by simpa using hz, hcell, hwz⟩⟩
  obtain ⟨a1, rfl, rfl, rfl, w1⟩ := open_int Try.underlying3 (hval 1 3 v1 rfl rfl) h1
  clear hA0 hval0
  refine (walk a0 len0 cap0 z0 a1 W w0 w1).mono fun e W' ⟨he, bel⟩ => ?_
  subst he
  exact ⟨_, rfl, _, _, _, [], _, [], hW', trodAll_mk1 (shut_bool Try.underlying4 _), (trodAll_cons_mk (Below.trod laidOut (by kernel_rfl) (of_decide_eq_true (by kernel_rfl)) k0 bel lt0) (trodAll_cons_mk (shut_int Try.underlying3 w1) trodAll_mk0)), rfl, bel.frame _, fun h => by cases h⟩

theorem over : Rows.linesSplitRow.holds Try.pinned (OpenSpec.ofChange Rows.linesSplitSpec) :=
  OpenClaim.holds_of_wide 5 Try.f5 rfl rfl rfl rfl rfl rfl rfl ⟨rfl, rfl, rfl, rfl, rfl⟩ rfl rfl rfl rfl rfl (by kernel_rfl) Try.func5 (by kernel_rfl)
    (of_decide_eq_true (by kernel_rfl)) (by unfold Func.isWrapper; first | (rw [if_pos (by decide +kernel)]; kernel_rfl) | (rw [if_neg (by decide +kernel)]; exact ⟨rfl, rfl⟩))
    (fun os started H enc _ => lifted os started H enc)

/-- ████ THE STATEMENT ████ -/
theorem proved : Rows.LinesSplitSaid := over
#print axioms proved
end Go.Proofs.Ytlmhcaigjcdkeaa.linesSplit
