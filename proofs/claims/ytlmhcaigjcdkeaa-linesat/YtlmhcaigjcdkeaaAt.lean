/-
  Proved: the law 'scholium/scholiumlaw02.LinesAt' returns true for every input, and every argument reads as it did before. No conditions.
-/
import Derived.Test.YtlmhcaigjcdkeaaRows
import Derived.Test.YtlmhcaigjcdkeaaFacts
import Derived.WalkKit
import Derived.ProofKit
import Derived.OpenShut
import Derived.ShutString
import Derived.ChangeOld
import Derived.Below
namespace Go.Proofs.Ytlmhcaigjcdkeaa.linesAt
open Go.ChangeShapes Go.WideShapes Go.ChangeAt Go.RowKit
open Go.ChangeMaps (open_string shut_string)
set_option linter.unusedVariables false

theorem own : ownKnob Try.prog.godebug = none := by kernel_rfl
theorem laidOut : laidOutB Try.prog = true := by kernel_rfl

/-- WHAT THE WALK IS TOLD OF A SLICE OF INTEGERS THAT CAME IN: it is nil; or it leads to a row of 'cap' cells, the numbers 'zs' (the first 'len' are its elements, the rest its spare room), each fitting its kind. -/
def IsRow (k : IntKind) (w : World) (a : Option Addr) (len cap : Nat) (zs : List Int) : Prop :=
  (a = none ∧ len = 0 ∧ cap = 0 ∧ zs = []) ∨
  ∃ x, a = some x ∧ len ≤ cap ∧ cap ≤ maxLen ∧ zs.length = cap ∧ (∀ i, i < zs.length → w.cell? (x.add i) = some (.int k (zs.getD i 0))) ∧ ∀ n ∈ zs, (Lit.int k n).wf = true

set_option maxHeartbeats 4000000 in
theorem walk (a0 : Option Addr) (len0 cap0 : Nat) (z0 : List Int) (a1 : Int) (w : World) (w0 : IsRow .u8 w a0 len0 cap0 z0) (w1 : (Lit.int .i64 a1).wf = true) :
    Calls Try.prog 4 #[.slice a0 len0 cap0, .int .i64 a1] w fun e w' => e = .returned (.bool true) ∧ Below w.heap.size w w' := by
  have hb1 := bounds_i64 w1
  obtain ⟨hrd, hby, hlen, hnc, hm, hA⟩ := isRow_rd w0
  clear w0
  generalize z0.take len0 = ys at *
  have HRD := Lib.hid hrd
  have HBY := Lib.hid hby
  have HLEN := Lib.hid hlen
  have HA := Lib.hid hA
  clear hrd hby hlen hA
  go_enter Try.func4, Try.ntmps4
  go_wp2_with fail
  refine (cut_any a0 len0 cap0 120 ys _ HLEN.out hnc hm (by omega) HRD.out HA.out).mono ?_
  rintro e W1 ⟨A, n, cap, rfl, h1, h2, h3, h4, h5, h6⟩
  have hby2 := HBY.out.take 120
  have hn : n ≤ 120 := by rw [← h1, List.length_take]; omega
  generalize ys.take 120 = zs at *
  clear HRD HBY HLEN HA hnc hm
  have HL := Lib.hid h1
  have HA := Lib.hid h4
  have HR := Lib.hid h5
  have HB := Lib.hid h6
  have HBY := Lib.hid hby2
  clear h1 h4 h5 h6 hby2
  go_wp2_with fail
  refine (split_any A n cap zs W1 HL.out h2 h3 HBY.out HR.out HA.out (by omega)).mono ?_
  rintro e W2 ⟨AL, m, capl, rfl, g1, g2, g3, g4, g5⟩
  have hm : m ≤ n := by rw [← g1, ← HL.out]; exact split_len zs
  have HML := Lib.hid g1
  have HRL := Lib.hid g4
  have HB2 := Lib.hid (below_step HB.out g5)
  have HSM := Lib.hid (split_small zs (by rw [HL.out]; omega))
  clear g1 g4 g5
  go_wp2_with fail
  refine (within_nat a1 (n + 3) W2 (by omega) (by omega) (by omega)).mono ?_
  rintro e w' ⟨o, ho, rfl, rfl⟩
  have HAT := Lib.hid (at_chn zs o)
  go_wp2_with fail
  refine (at_any AL m capl (splitF zs) o W2 HML.out g2 (by omega) (by omega) HSM.out HRL.out).mono ?_
  rintro e W3 ⟨rfl, nq, rfl⟩
  have hat := HAT.out
  clear HAT
  rw [HML.out] at hat
  rcases hat with ⟨c1, c2⟩ | ⟨c1, c2, c3⟩ | ⟨k, c1, c2, c3, c4, c5⟩
  · subst c1
    rw [c2]
    clear c2
    go_wp2_with (go_at_call 13; refine (wakes_any _).mono ?_; rintro e w9 ⟨rfl, hb9⟩)
    go_ret
    exact ⟨rfl, (below_draws HB2.out nq).trans (hb9.mono HB2.out.size)⟩
  · rw [c3]
    clear c3
    obtain ⟨b, off, rfl, hbl, hc⟩ := HRL.out.addr (by rw [HML.out]; omega)
    obtain ⟨hc0, _, _⟩ := hc 0 (by rw [HML.out]; omega)
    simp only [Nat.zero_mul, Nat.add_zero] at hc0
    clear hc
    generalize lnAt (splitF zs) 0 = l at *
    have d0 : ((m : Int) == 0) = false := beq_eq_false_iff_ne.2 (by omega)
    have d1 : (0 : Int) < (m : Int) := by omega
    have d2 : (o : Int) < (l.f : Int) := by omega
    go_wp2_with (go_at_call 13; refine (wakes_any _).mono ?_; rintro e w9 ⟨rfl, hb9⟩)
    go_ret
    exact ⟨rfl, (below_draws HB2.out nq).trans (hb9.mono HB2.out.size)⟩
  · rw [c4]
    clear c4
    have hzl := HL.out
    have hs0 := (HSM.out 0).1
    have hsk := (HSM.out k).1
    have hsk1 := (HSM.out (k + 1)).1
    clear hzl
    have hmn := at_minus (splitF zs)
    have HMN := Lib.hid hmn
    clear hmn
    obtain ⟨b, off, rfl, hbl, hc⟩ := HRL.out.addr (by rw [HML.out]; omega)
    obtain ⟨hc0, _, _⟩ := hc 0 (by rw [HML.out]; omega)
    obtain ⟨hck, _, _⟩ := hc k (by rw [HML.out]; omega)
    simp only [Nat.zero_mul, Nat.add_zero] at hc0
    have d0 : ((m : Int) == 0) = false := beq_eq_false_iff_ne.2 (by omega)
    have d1 : (0 : Int) < (m : Int) := by omega
    have d2 : decide ((o : Int) < ((lnAt (splitF zs) 0).f : Int)) = false := decide_eq_false (by omega)
    have d3 : decide ((k : Int) < 0) = false := decide_eq_false (by omega)
    have d4 : decide ((m : Int) ≤ (k : Int)) = false := decide_eq_false (by omega)
    have d5 : (k : Int) < (m : Int) := by omega
    have d6 : ((((lnAt (splitF zs) k).f : Int) + ((o : Int) - ((lnAt (splitF zs) k).f : Int))) != (o : Int)) = false := by
      rw [show (((lnAt (splitF zs) k).f : Int) + ((o : Int) - ((lnAt (splitF zs) k).f : Int))) = (o : Int) by omega]; simp
    have d7 : decide (((o : Int) - ((lnAt (splitF zs) k).f : Int)) < 0) = false := decide_eq_false (by omega)
    generalize lnAt (splitF zs) 0 = l0 at *
    rcases c5 with c5 | ⟨c5, c6⟩
    · clear hc
      generalize lnAt (splitF zs) k = l at *
      have d8 : ((k : Int) + 1 == (m : Int)) = true := beq_iff_eq.2 (by omega)
      clear c5
      go_wp2_with fail
      refine (at_any _ m capl (splitF zs) (-1) _ HML.out g2 (by omega) (by omega) HSM.out (HRL.out.draws nq)).mono ?_
      rintro e W3 ⟨rfl, nq2, rfl⟩
      rw [HMN.out]
      go_wp2_with (go_at_call 13; refine (wakes_any _).mono ?_; rintro e w9 ⟨rfl, hb9⟩)
      go_ret
      exact ⟨rfl, (below_draws HB2.out _).trans (hb9.mono HB2.out.size)⟩
    · obtain ⟨hck1, _, _⟩ := hc (k + 1) (by rw [HML.out]; omega)
      clear hc
      generalize lnAt (splitF zs) k = l at *
      generalize lnAt (splitF zs) (k + 1) = l1 at *
      have d8 : ((k : Int) + 1 == (m : Int)) = false := beq_eq_false_iff_ne.2 (by omega)
      have d9 : (o : Int) < (l1.f : Int) := by omega
      have d10 : (k : Int) + 1 < (m : Int) := by omega
      go_wp2_with fail
      refine (at_any _ m capl (splitF zs) (-1) _ HML.out g2 (by omega) (by omega) HSM.out (HRL.out.draws nq)).mono ?_
      rintro e W3 ⟨rfl, nq2, rfl⟩
      rw [HMN.out]
      go_wp2_with (go_at_call 13; refine (wakes_any _).mono ?_; rintro e w9 ⟨rfl, hb9⟩)
      go_ret
      exact ⟨rfl, (below_draws HB2.out _).trans (hb9.mono HB2.out.size)⟩

/-! ### THE ROW's STEP: WRITTEN OUT: LEAVE IT -/
set_option maxRecDepth 100000 in
theorem lifted (os : Os) (started : os.Started) (H : Type) (enc : TypeId × Value → H) :
    ReturnsInHanded {} Try.checked os 4 .any (Rows.linesAtSpec.pre6 enc Try.prog Try.f4 Rows.linesAtRow.domain false) (Rows.linesAtSpec.post enc Try.prog Try.f4 false true false false) := by
  refine returnsInHanded_of_change (C := Try.checked) own started (by kernel_rfl) Try.func4
    (ChangeSpec.witness6 (enc := enc) (C := Try.checked) false ⟨#[], #[.slice none 0 0, .int .i64 0], []⟩ 8 (by kernel_rfl) (by kernel_rfl) (by kernel_rfl) (by kernel_rfl)) ?_
  intro W base args ds gs before hval0 hW hcnd _
  have hval : ∀ (j : Nat) t v, Try.f4.params[j]? = some t → args[j]? = some v → Value.okWide Try.prog W .any base t v := hval0
  have hW' := hW
  obtain ⟨p, q, hA0, hV, rfl, hfz, hnd⟩ := hW
  have hA : DataW.TrodAll enc Try.prog W 0 (fun _ => true) true Try.f4.params.toList args.toList ds p := hA0
  rw [Try.params4] at hA hval
  obtain ⟨v0, vs0, d0, ds0, p0, q0, hargs, rfl, rfl, h0, r0⟩ := trodAll_cons hA
  obtain ⟨v1, vs1, d1, ds1, p1, q1, rfl, rfl, rfl, h1, r1⟩ := trodAll_cons r0
  obtain ⟨rfl, rfl, rfl⟩ := trodAll_nil r1
  obtain rfl : args = #[v0, v1] := by cases args; simp_all
  obtain ⟨rfl, rfl⟩ := trodVars_none hV
  obtain ⟨a0, len0, cap0, rfl⟩ := okWide_slice Try.underlying23 (hval 0 23 v0 rfl rfl)
  have k0 := h0
  have lt0 : ∀ x ∈ p0, x.block < W.heap.size := by obtain ⟨m, hm⟩ := k0; exact DataW.trod_lt m _ _ _ hm
  obtain ⟨z0, w0⟩ : ∃ zs, IsRow .u8 W a0 len0 cap0 zs := by
    obtain ⟨fuel, hf⟩ := h0
    rcases open_ints Try.underlying23 Try.underlying5 (by kernel_rfl) hf with ⟨hcs, _⟩ | ⟨x, l, c, zs, hcs, _, hl, hm, hz, _, hcell, hwz⟩
    · simp [Value.cells] at hcs
      obtain ⟨rfl, rfl, rfl⟩ := hcs
      exact ⟨[], .inl ⟨rfl, rfl, rfl, rfl⟩⟩
    · simp [Value.cells] at hcs
      obtain ⟨rfl, rfl, rfl⟩ := hcs
      exact ⟨zs, .inr ⟨_, rfl, hl, hm, by simpa using hz, hcell, hwz⟩⟩
  obtain ⟨a1, rfl, rfl, rfl, w1⟩ := open_int Try.underlying3 (hval 1 3 v1 rfl rfl) h1
  clear hA0 hval0
  refine (walk a0 len0 cap0 z0 a1 W w0 w1).mono fun e W' ⟨he, bel⟩ => ?_
  subst he
  exact ⟨_, rfl, _, _, _, [], _, [], hW', trodAll_mk1 (shut_bool Try.underlying4 _), (trodAll_cons_mk (Below.trod laidOut (by kernel_rfl) (of_decide_eq_true (by kernel_rfl)) k0 bel lt0) (trodAll_cons_mk (shut_int Try.underlying3 w1) trodAll_mk0)), rfl, bel.frame _, fun h => by cases h⟩

theorem over : Rows.linesAtRow.holds Try.pinned (OpenSpec.ofChange Rows.linesAtSpec) :=
  OpenClaim.holds_of_wide 4 Try.f4 rfl rfl rfl rfl rfl rfl rfl ⟨rfl, rfl, rfl, rfl, rfl⟩ rfl rfl rfl rfl rfl (by kernel_rfl) Try.func4 (by kernel_rfl)
    (of_decide_eq_true (by kernel_rfl)) (by unfold Func.isWrapper; first | (rw [if_pos (by decide +kernel)]; kernel_rfl) | (rw [if_neg (by decide +kernel)]; exact ⟨rfl, rfl⟩))
    (fun os started H enc _ => lifted os started H enc)

/-- ████ THE STATEMENT ████ -/
theorem proved : Rows.LinesAtSaid := over
#print axioms proved
end Go.Proofs.Ytlmhcaigjcdkeaa.linesAt
