/-
  Proved: the law 'scholium/scholiumlaw01.CharsKinds' returns true for every input, and every argument reads as it did before. No conditions.
-/
import Derived.Test.YtpcbpblckecfiaaRows
import Derived.Test.YtpcbpblckecfiaaCheck
import Derived.WalkKit
import Derived.ProofKit
import Derived.OpenShut
import Derived.ShutString
namespace Go.Proofs.Ytpcbpblckecfiaa.charsKinds
open Go.ChangeShapes Go.WideShapes Go.ChangeAt Go.RowKit
open Go.ChangeMaps (open_string shut_string)
set_option linter.unusedVariables false      -- a walk need not use every 'w<i>' (that an integer argument fits its kind)

theorem own : ownKnob Try.prog.godebug = none := by kernel_rfl

def Runs (w : World) (g : Nat) (l : List Int) (W : World) : Prop := Below w.heap.size w W ∧ ∀ (k : Nat) (z : Int), l[k]? = some z → W.cell? ⟨g, k, none⟩ = some (.int .i32 z)
def yes : List Int := [9, 10, 13, 32, 126, 133, 160, 55295, 57344, 65278, 65533, 65536, 1114111]
def no : List Int := [-1, 0, 8, 11, 12, 14, 31, 127, 128, 132, 134, 159, 55296, 57343, 65279, 65534, 65535, 1114112]
theorem yes_at : ∀ k : Fin 13, ∃ z, yes[k.val]? = some z ∧ prt z = true := by
  intro k; exact ⟨yes.getD k.val 0, by revert k; decide +kernel, by revert k; decide +kernel⟩
theorem no_at : ∀ k : Fin 18, ∃ z, no[k.val]? = some z ∧ prt z = false := by
  intro k; exact ⟨no.getD k.val 0, by revert k; decide +kernel, by revert k; decide +kernel⟩
theorem at_map {l : List Int} {cs : Array Value} (h : cs.toList = l.map (Value.int .i32)) : ∀ (k : Nat) (z : Int), l[k]? = some z → cs[k]? = some (Value.int .i32 z) := by
  intro k z hz
  rw [← Array.getElem?_toList, h, List.getElem?_map, hz]; rfl
theorem prt_word (m : Int) (h0 : 0 ≤ m) (h1 : m < 94) : prt (33 + m) = true := by
  unfold prt surr; repeat' split
  all_goals (first | rfl | omega | (simp; omega))

set_option maxHeartbeats 1000000 in
theorem walk (a0 : Int) (w0 : (Lit.int .i64 a0).wf = true) (w : World) :
    Calls Try.prog 4 #[.int .i64 a0] w fun e w' => e = .returned (.bool true) ∧ Below w.heap.size w w' := by
  have hb := bounds_i64 w0
  have hm1 := Int.emod_nonneg a0 (show (94 : Int) ≠ 0 by omega)
  have hm2 := Int.emod_lt_of_pos a0 (show (0 : Int) < 94 by omega)
  have hp := prt_word (a0 % 94) hm1 hm2
  have s1 : spc 32 = true := rfl
  have s2 : spc 9 = false := rfl
  have s3 : dgt 48 = true := rfl
  have s4 : dgt 47 = false := rfl
  have s5 : dgt 58 = false := rfl
  generalize hx : a0 % 94 = x at *
  have HX := Lib.hid hx
  clear hx
  go_enter Try.func4, Try.ntmps4
  go_wp2
  go_loopw [10] (fun i W => ∃ k : Nat, k ≤ 13 ∧ i = .int .i64 k ∧ Hid (Runs w w.heap.size yes W)) (fun i _ => 13 - (intOf i).toNat)
  case atStart =>
    refine ⟨0, by omega, rfl, (Below.refl _ _).alloc (Nat.le_refl _) _, fun k z hz => ?_⟩
    rw [World.cell?_alloc_mark]
    exact at_map (by rfl) k z hz
  case round =>
    obtain ⟨k, hk, rfl, HR⟩ := hrel
    by_cases hlt : k < 13
    · obtain ⟨z, hz, hpz⟩ := yes_at ⟨k, hlt⟩
      have hcz := HR.out.2 k z hz
      clear hz
      go_wp2_with (go_at_call 12; refine (prt_any _ _).mono ?_; rintro e w' ⟨rfl, rfl⟩)
      go_roundw
      case rel => exact ⟨k + 1, by omega, by go_num, HR⟩
      case measure => simp [intOf]; omega
    · go_wp2
      obtain ⟨wo, rfl⟩ : ∃ wo : World, wo = wr := ⟨_, rfl⟩
      go_loopw [20] (fun i W => ∃ k : Nat, k ≤ 18 ∧ i = .int .i64 k ∧ Hid (Runs wo wo.heap.size no W)) (fun i _ => 18 - (intOf i).toNat)
      case atStart =>
        refine ⟨0, by omega, rfl, (Below.refl _ _).alloc (Nat.le_refl _) _, fun k z hz => ?_⟩
        rw [World.cell?_alloc_mark]
        exact at_map (by rfl) k z hz
      case round =>
        obtain ⟨k2, hk2, rfl, HR2⟩ := hrel
        by_cases hlt2 : k2 < 18
        · obtain ⟨z, hz, hpz⟩ := no_at ⟨k2, hlt2⟩
          have hcz := HR2.out.2 k2 z hz
          clear hz
          go_wp2_with (go_at_call 12; refine (prt_any _ _).mono ?_; rintro e w' ⟨rfl, rfl⟩)
          go_roundw
          case rel => exact ⟨k2 + 1, by omega, by go_num, HR2⟩
          case measure => simp [intOf]; omega
        · go_wp2_with fail
          refine (within_any a0 94 _ (by omega) (by omega) (by omega)).mono ?_
          rintro e w' ⟨rfl, rfl⟩
          rw [HX.out]
          go_wp2_with (first | (go_at_call 12; refine (prt_any _ _).mono ?_; rintro e w' ⟨rfl, rfl⟩) | (go_at_call 16; refine (space_any _ _).mono ?_; rintro e w' ⟨rfl, rfl⟩) | (go_at_call 17; refine (digit_any _ _).mono ?_; rintro e w' ⟨rfl, rfl⟩) | (go_at_call 13; refine (wakes_any _).mono ?_; rintro e w9 ⟨rfl, hb9⟩))
          go_ret
          exact ⟨rfl, (HR.out.1.trans (HR2.out.1.mono HR.out.1.size)).trans (hb9.mono (Nat.le_trans HR.out.1.size HR2.out.1.size))⟩

/-! ### THE ROW's STEP: WRITTEN OUT: LEAVE IT -/
set_option maxRecDepth 100000 in
theorem lifted (os : Os) (started : os.Started) (H : Type) (enc : TypeId × Value → H) :
    ReturnsInHanded {} Try.checked os 4 .any (Rows.charsKindsSpec.pre6 enc Try.prog Try.f4 Rows.charsKindsRow.domain false) (Rows.charsKindsSpec.post enc Try.prog Try.f4 false true false false) := by
  refine returnsInHanded_of_change (C := Try.checked) own started (by kernel_rfl) Try.func4
    (ChangeSpec.witness6 (enc := enc) (C := Try.checked) false ⟨#[], #[.int .i64 0], []⟩ 8 (by kernel_rfl) (by kernel_rfl) (by kernel_rfl) (by kernel_rfl)) ?_
  intro W base args ds gs before hval0 hW hcnd _
  have hval : ∀ (j : Nat) t v, Try.f4.params[j]? = some t → args[j]? = some v → Value.okWide Try.prog W .any base t v := hval0
  have hW' := hW
  obtain ⟨p, q, hA0, hV, rfl, hfz, hnd⟩ := hW
  have hA : DataW.TrodAll enc Try.prog W 0 (fun _ => true) true Try.f4.params.toList args.toList ds p := hA0
  rw [Try.params4] at hA hval
  obtain ⟨v0, vs0, d0, ds0, p0, q0, hargs, rfl, rfl, h0, r0⟩ := trodAll_cons hA
  obtain ⟨rfl, rfl, rfl⟩ := trodAll_nil r0
  obtain rfl : args = #[v0] := by cases args; simp_all
  obtain ⟨rfl, rfl⟩ := trodVars_none hV
  obtain ⟨a0, rfl, rfl, rfl, w0⟩ := open_int Try.underlying3 (hval 0 3 v0 rfl rfl) h0
  clear hA0 hval0
  refine (walk a0 w0 W).mono fun e W' ⟨he, hg⟩ => ?_
  subst he
  exact ⟨_, rfl, _, _, _, [], [], [], hW', trodAll_mk1 (shut_bool Try.underlying4 _), (trodAll_cons_mk (shut_int Try.underlying3 w0) trodAll_mk0), rfl, hg.frame _, fun h => by cases h⟩

theorem over : Rows.charsKindsRow.holds Try.pinned (OpenSpec.ofChange Rows.charsKindsSpec) :=
  OpenClaim.holds_of_wide 4 Try.f4 rfl rfl rfl rfl rfl rfl rfl ⟨rfl, rfl, rfl, rfl, rfl⟩ rfl rfl rfl rfl rfl (by kernel_rfl) Try.func4 (by kernel_rfl)
    (of_decide_eq_true (by kernel_rfl)) (by unfold Func.isWrapper; first | (rw [if_pos (by decide +kernel)]; kernel_rfl) | (rw [if_neg (by decide +kernel)]; exact ⟨rfl, rfl⟩))
    (fun os started H enc _ => lifted os started H enc)

/-- ████ THE STATEMENT ████ -/
theorem proved : Rows.CharsKindsSaid :=
  over
#print axioms proved
end Go.Proofs.Ytpcbpblckecfiaa.charsKinds
