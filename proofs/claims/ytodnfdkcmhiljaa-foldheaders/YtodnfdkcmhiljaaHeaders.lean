/-
  Proved: the law 'scholium/scholiumlaw07.FoldHeaders' returns true for every input, and every argument reads as it did before. No conditions.
-/
import Derived.Test.YtodnfdkcmhiljaaRows
import Derived.Test.YtodnfdkcmhiljaaFdRTake
import Derived.Test.YtodnfdkcmhiljaaFdLaw
import Derived.Test.YtodnfdkcmhiljaaKeep
import Derived.WalkKit
import Derived.ProofKit
import Derived.OpenShut
import Derived.ShutString
import Derived.ChangeOld
import Derived.Below
namespace Go.Proofs.Ytodnfdkcmhiljaa.foldHeaders
open Go.ChangeShapes Go.WideShapes Go.ChangeAt Go.RowKit
open Go.ChangeMaps (open_string shut_string)
set_option linter.unusedVariables false

theorem own : ownKnob Try.prog.godebug = none := by kernel_rfl
theorem laidOut : laidOutB Try.prog = true := by kernel_rfl

/-- A slice of integers that came in. -/
def IsRow (k : IntKind) (w : World) (a : Option Addr) (len cap : Nat) (zs : List Int) : Prop :=
  (a = none ∧ len = 0 ∧ cap = 0 ∧ zs = []) ∨
  ∃ x, a = some x ∧ len ≤ cap ∧ cap ≤ maxLen ∧ zs.length = cap ∧ (∀ i, i < zs.length → w.cell? (x.add i) = some (.int k (zs.getD i 0))) ∧ ∀ n ∈ zs, (Lit.int k n).wf = true

theorem hd_eql (fo st ke : Bool) (d : Int) (w : World) : (binOp .eql 41 (.agg #[.bool fo, .bool st, .bool ke, .int .i64 d]) (.agg #[.bool fo, .bool st, .bool ke, .int .i64 d])).run Try.prog w = .ok (.bool true) w := by
  have h1 : Try.prog.underlying 41 = some (.struct (Try.prog.fieldsOf 41)) := by kernel_rfl
  have h2 : Try.prog.stoodInHeld 41 = false := by kernel_rfl
  rw [run_eql_struct, run_equalIn_agg _ _ _ _ _ h1 h2]
  simp [go_sem, Try.underlying41]
theorem hd_guard : Try.prog.eqGuardType Try.prog.depth 41 = false := by kernel_rfl

set_option maxHeartbeats 4000000 in
set_option maxRecDepth 100000 in
theorem walk (a0 : ByteArray) (a1 : Int) (w : World) (w0 : a0.size ≤ maxLen) (w1 : (Lit.int .i64 a1).wf = true) :
    Calls Try.prog 6 #[.string a0, .int .i64 a1] w fun e w' => e = .returned (.bool true) ∧ Below w.heap.size w w' := by
  have hb1 := bounds_i64 w1
  clear w1
  go_enter Try.func6, Try.ntmps6
  go_wp2_with fail
  refine (text_any a0 8 _ (by omega) w0).mono ?_
  rintro e w' ⟨t, _, ht, rfl, rfl⟩
  clear w0
  go_upto_if 17 with fail
  go_cut [0] (fun s W => ∃ u : ByteArray, s = .string u ∧ W = w ∧ u.size ≤ 9)
  case first =>
    by_cases h2 : (a1.tmod 2 == 0) = true
    · have hq : -9223372036854775808 ≤ a1.tdiv 2 ∧ a1.tdiv 2 ≤ 9223372036854775807 := by
        have h3 : a1.tmod 2 = 0 := by simpa using h2
        have := Int.tdiv_mul_add_tmod a1 2
        rw [h3] at this
        constructor <;> omega
      go_wp2_with fail
      refine (within_nat _ 2 w (by omega) (by omega) hq).mono ?_
      rintro e w' ⟨k, hk, rfl, rfl⟩
      obtain rfl | rfl : k = 0 ∨ k = 1 := by omega
      · go_wp2_with fail
        go_meet
        exact ⟨_, rfl, rfl, by rw [ByteArray.size_append, ByteArray.size_extract]; omega⟩
      · go_wp2_with fail
        go_meet
        exact ⟨_, rfl, rfl, by rw [ByteArray.size_append, ByteArray.size_extract]; omega⟩
    · have h2' : (a1.tmod 2 == 0) = false := by simpa using h2
      clear h2
      go_wp2_with fail
      go_meet
      exact ⟨_, rfl, rfl, by omega⟩
  case rest =>
    obtain ⟨u, rfl, rfl, hus⟩ := hcut
    obtain ⟨cap, W1, hrun, hle, hmax, hrd, hbel⟩ := bytes_of u (by omega) wc
    have HL : Hid ((byt u).length = u.size) := byt_len u
    have HY := Lib.hid (byt_byte u)
    have HB := Lib.hid hbel
    have HR := Lib.hid hrd
    clear hrd hbel
    obtain ⟨h, k, ok, hT⟩ : ∃ h k ok, tkH (byt u) = (h, k, ok) := ⟨_, _, _, rfl⟩
    have HT := Lib.hid hT
    clear hT
    go_wp2_with fail
    clear hrun
    refine (lend_any _ u.size cap (byt u) W1 HL.out (by omega) HR.out).mono ?_
    rintro e W2 ⟨rfl, ho2, hb2⟩
    rw [HL.out]
    have HO2 := Lib.hid ho2
    have HR2 := Lib.hid (HR.out.below hb2)
    have HX2 := Lib.hid (lnd_rd ho2)
    have HB2 := Lib.hid (below_step HB.out hb2)
    clear ho2 hb2 HR HB
    generalize W1.heap.size = g at *
    go_wp2_with fail
    refine (takeHeader_any _ u.size (u.size + 3) (byt u) W2 HL.out (by omega) (by omega) HY.out HX2.out).mono ?_
    rintro e W3 ⟨rfl, hb3'⟩
    have HB3 := Lib.hid hb3'
    clear hb3'
    rw [HT.out]
    simp only [hdV]
    go_wp2_with fail
    obtain ⟨W4, hW4⟩ : ∃ x, W3.alloc (.cells #[.bool h.fo, .bool h.st, .bool h.ke, .int .i64 (h.dg : Int)] 27) = x := ⟨_, rfl⟩
    have hg4 : W4.heap[W3.heap.size]? = some (.cells #[.bool h.fo, .bool h.st, .bool h.ke, .int .i64 (h.dg : Int)] 27) := by rw [← hW4]; exact heap_alloc_new _ _
    have HB4 : Hid (Below W2.heap.size W2 W4) := by rw [← hW4]; exact HB3.out.alloc HB3.out.size _
    have hs4 : W3.heap.size < W4.heap.size := by rw [← hW4]; simp
    rw [hW4]
    have HG4 := Lib.hid hg4
    clear hW4 hg4 HB3
    refine (refTakeHeader_any _ u.size cap (byt u) W4 HL.out hle hmax HY.out (HR2.out.below HB4.out)).mono ?_
    rintro e W5 ⟨rfl, hb5⟩
    have hg5 := (hb5.block _ hs4).trans HG4.out
    have hs5 := Nat.lt_of_lt_of_le hs4 hb5.size
    have HB5 := Lib.hid (below_step HB4.out hb5)
    rw [HT.out]
    simp only [hdV]
    have c0 : W5.cell? ⟨W3.heap.size, 0, none⟩ = some (.bool h.fo) := by simp [World.cell?, hg5]
    have c1 : W5.cell? ⟨W3.heap.size, 1, none⟩ = some (.bool h.st) := by simp [World.cell?, hg5]
    have c2 : W5.cell? ⟨W3.heap.size, 2, none⟩ = some (.bool h.ke) := by simp [World.cell?, hg5]
    have c3 : W5.cell? ⟨W3.heap.size, 3, none⟩ = some (.int .i64 (h.dg : Int)) := by simp [World.cell?, hg5]
    clear hb5 hg5 HG4 HB4
    have hql := hd_eql h.fo h.st h.ke (h.dg : Int)
    have hgd := hd_guard
    go_wp2_with fail
    have HB6 : Hid (Below W2.heap.size W2 (W5.alloc (.cells #[.bool h.fo, .bool h.st, .bool h.ke, .int .i64 (h.dg : Int)] 41))) := HB5.out.alloc HB5.out.size _
    generalize W5.alloc (.cells #[.bool h.fo, .bool h.st, .bool h.ke, .int .i64 (h.dg : Int)] 41) = W6 at *
    refine (intact_any _ u.size cap g (byt u) W6 HL.out (by omega) (HR2.out.below HB6.out) (HO2.out.below HB6.out)).mono ?_
    rintro e W7 ⟨rfl, hb7⟩
    have HB7 := Lib.hid (below_step HB6.out hb7)
    clear hb7
    go_wp2_with fail
    refine (wakes_any W7).mono ?_
    rintro e W8 ⟨rfl, hb8⟩
    have HB8 := Lib.hid (below_step HB2.out (below_step HB7.out hb8))
    clear hb8
    go_wp2
    go_ret
    exact ⟨rfl, HB8.out⟩


set_option maxRecDepth 100000 in
theorem lifted (os : Os) (started : os.Started) (H : Type) (enc : TypeId × Value → H) :
    ReturnsInHanded {} Try.checked os 6 .any (Rows.foldHeadersSpec.pre6 enc Try.prog Try.f6 Rows.foldHeadersRow.domain false) (Rows.foldHeadersSpec.post enc Try.prog Try.f6 false true false false) := by
  refine returnsInHanded_of_change (C := Try.checked) own started (by kernel_rfl) Try.func6
    (ChangeSpec.witness6 (enc := enc) (C := Try.checked) false ⟨#[], #[.string ByteArray.empty, .int .i64 0], []⟩ 8 (by kernel_rfl) (by kernel_rfl) (by kernel_rfl) (by kernel_rfl)) ?_
  intro W base args ds gs before hval0 hW hcnd _
  have hval : ∀ (j : Nat) t v, Try.f6.params[j]? = some t → args[j]? = some v → Value.okWide Try.prog W .any base t v := hval0
  have hW' := hW
  obtain ⟨p, q, hA0, hV, rfl, hfz, hnd⟩ := hW
  have hA : DataW.TrodAll enc Try.prog W 0 (fun _ => true) true Try.f6.params.toList args.toList ds p := hA0
  rw [Try.params6] at hA hval
  obtain ⟨v0, vs0, d0, ds0, p0, q0, hargs, rfl, rfl, h0, r0⟩ := trodAll_cons hA
  obtain ⟨v1, vs1, d1, ds1, p1, q1, rfl, rfl, rfl, h1, r1⟩ := trodAll_cons r0
  obtain ⟨rfl, rfl, rfl⟩ := trodAll_nil r1
  obtain rfl : args = #[v0, v1] := by cases args; simp_all
  obtain ⟨rfl, rfl⟩ := trodVars_none hV
  obtain ⟨a0, rfl, rfl, rfl, w0⟩ := open_string Try.underlying9 (hval 0 9 v0 rfl rfl) h0
  obtain ⟨a1, rfl, rfl, rfl, w1⟩ := open_int Try.underlying3 (hval 1 3 v1 rfl rfl) h1
  clear hA0 hval0
  refine (walk a0 a1 W w0 w1).mono fun e W' ⟨he, bel⟩ => ?_
  subst he
  exact ⟨_, rfl, _, _, _, [], _, [], hW', trodAll_mk1 (shut_bool Try.underlying4 _), (trodAll_cons_mk (shut_string Try.underlying9 w0) (trodAll_cons_mk (shut_int Try.underlying3 w1) trodAll_mk0)), rfl, bel.frame _, fun h => by cases h⟩

theorem over : Rows.foldHeadersRow.holds Try.pinned (OpenSpec.ofChange Rows.foldHeadersSpec) :=
  OpenClaim.holds_of_wide 6 Try.f6 rfl rfl rfl rfl rfl rfl rfl ⟨rfl, rfl, rfl, rfl, rfl⟩ rfl rfl rfl rfl rfl (by kernel_rfl) Try.func6 (by kernel_rfl)
    (of_decide_eq_true (by kernel_rfl)) (by unfold Func.isWrapper; first | (rw [if_pos (by decide +kernel)]; kernel_rfl) | (rw [if_neg (by decide +kernel)]; exact ⟨rfl, rfl⟩))
    (fun os started H enc _ => lifted os started H enc)

theorem proved : Rows.FoldHeadersSaid := over
#print axioms proved
end Go.Proofs.Ytodnfdkcmhiljaa.foldHeaders
