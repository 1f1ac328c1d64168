/-
  Proved: the law 'scholium/scholiumlaw01.CharsLong' returns true for every input, and every argument reads as it did before. No conditions.
-/
import Derived.Test.YtpcbpblckecfiaaRows
import Derived.Test.YtpcbpblckecfiaaOwn
import Derived.WalkKit
import Derived.ProofKit
import Derived.OpenShut
import Derived.ShutString
namespace Go.Proofs.Ytpcbpblckecfiaa.charsLong
open Go.ChangeShapes Go.WideShapes Go.ChangeAt Go.RowKit
open Go.ChangeMaps (open_string shut_string)
set_option linter.unusedVariables false      -- a walk need not use every 'w<i>' (that an integer argument fits its kind)

theorem own : ownKnob Try.prog.godebug = none := by kernel_rfl

def fil (n k : Nat) : List Int := List.replicate k 97 ++ List.replicate (n - k) 0
theorem fil_len (n k : Nat) (h : k ≤ n) : (fil n k).length = n := by simp [fil]; omega
theorem fil_set (n k : Nat) (h : k < n) : (fil n k).set k 97 = fil n (k + 1) := by
  unfold fil
  rw [show n - k = (n - (k + 1)) + 1 by omega, List.replicate_succ, List.set_append_right _ _ (by simp)]
  simp [List.replicate_succ', List.append_assoc]
theorem fil_full (n : Nat) : fil n n = List.replicate n 97 := by simp [fil]
theorem rune_a (t : List Int) : runeF (97 :: t) = (97, 1, true) := by
  have := runeF_good 97 t (by decide) (by have : ldN 97 = 1 := rfl; simp; omega) 97 (by simp [show ldN 97 = 1 from rfl, show ldR 97 = 97 from rfl, accR]) (by decide)
  rw [this]; rfl
theorem chk_a : ∀ (m f : Nat) (k : Int), m ≤ f → chk f (List.replicate m 97) k = (0, 0) := by
  intro m
  induction m with
  | zero => intro f k _; exact chk_nil f k
  | succ m ih =>
    intro f k h
    cases f with
    | zero => omega
    | succ f =>
      have hb : badAt (97 :: List.replicate m 97) = false := by
        unfold badAt; rw [rune_a]; rfl
      rw [List.replicate_succ, chk, if_neg (by simp), if_neg (by rw [hb]; simp), rune_a]
      exact ih f _ (by omega)
theorem check_a (n : Nat) (h1 : 1 ≤ n) (h : n ≤ 65536) : checkF (List.replicate n 97) = (0, 0) := by
  have hm : mrk (List.replicate n 97) = false := by
    unfold mrk
    have : (List.replicate n (97 : Int)).getD 0 0 = 97 := by cases n with | zero => omega | succ n => simp [List.replicate_succ]
    rw [this]; simp
  unfold checkF
  rw [if_neg (by simp; omega), if_neg (by rw [hm]; simp)]
  exact chk_a n _ 0 (by simp)
theorem check_more (n : Nat) (h : 65536 < n) : checkF (List.replicate n 97) = (65536, 10) := by
  unfold checkF; rw [if_pos (by simpa using h)]

set_option maxHeartbeats 1000000 in
theorem walk (a0 : Int) (w0 : (Lit.int .i64 a0).wf = true) (w : World) :
    Calls Try.prog 10 #[.int .i64 a0] w fun e w' => e = .returned (.bool true) ∧ Below w.heap.size w w' := by
  have hb0 := bounds_i64 w0
  have hm1 := Int.emod_nonneg a0 (show (3 : Int) ≠ 0 by omega)
  have hm2 := Int.emod_lt_of_pos a0 (show (0 : Int) < 3 by omega)
  obtain ⟨n, hx⟩ : ∃ n : Nat, 65535 + a0 % 3 = (n : Int) := ⟨(65535 + a0 % 3).toNat, by omega⟩
  have hn1 : 65535 ≤ n := by omega
  have hn2 : n ≤ 65537 := by omega
  have HX := Lib.hid hx
  clear hx
  have hmk := fun W => run_make_bytes n (by omega) W
  go_enter Try.func10, Try.ntmps10
  go_wp2_with fail
  refine (within_any a0 3 _ (by omega) (by omega) (by omega)).mono ?_
  rintro e w' ⟨rfl, rfl⟩
  have hx := HX.out
  go_wp2
  clear hmk hx
  go_loopw [14] (fun i W => ∃ k : Nat, k ≤ n ∧ i = .int .i64 k ∧ Hid (Below w.heap.size w W ∧ OwnB W w.heap.size (fil n k))) (fun i _ => n - (intOf i).toNat)
  case atStart => exact ⟨0, by omega, rfl, (Below.refl _ _).alloc (Nat.le_refl _) _, OwnB.new _ _⟩
  case round =>
    obtain ⟨k, hk, rfl, HR⟩ := hrel
    by_cases hlt : k < n
    · have hcz := HR.out.2.at_ k _ (getD_at (by rw [fil_len n k hk]; exact hlt))
      have hfz := HR.out.2.frozen k
      go_wp2
      go_roundw
      case rel =>
        refine ⟨k + 1, by omega, by go_num, HR.out.1.setCell (Nat.le_refl _) _, ?_⟩
        rw [← fil_set n k hlt]
        exact HR.out.2.set k _
      case measure => simp [intOf]; omega
    · obtain rfl : n = k := by omega
      have hrd := HR.out.2.rd
      rw [fil_full] at hrd
      have HRD := Lib.hid hrd
      clear hrd
      have hby : Byte (List.replicate n 97) := by intro z hz; rw [List.eq_of_mem_replicate hz]; omega
      have HBY := Lib.hid hby
      clear hby
      by_cases h6 : 65536 < n
      · have d : (65536 : Int) < (n : Int) := by omega
        go_wp2_with fail
        refine (check_at _ n n _ _ (by simp) (by omega) (by omega) HBY.out HRD.out _ _ (check_more n h6)).mono ?_
        rintro e w' ⟨rfl, rfl⟩
        go_wp2_with (go_at_call 13; refine (wakes_any _).mono ?_; rintro e w9 ⟨rfl, hb9⟩)
        go_ret
        exact ⟨rfl, HR.out.1.trans (hb9.mono HR.out.1.size)⟩
      · go_wp2_with fail
        refine (check_at _ n n _ _ (by simp) (by omega) (by omega) HBY.out HRD.out _ _ (check_a n (by omega) (by omega))).mono ?_
        rintro e w' ⟨rfl, rfl⟩
        go_wp2_with (go_at_call 13; refine (wakes_any _).mono ?_; rintro e w9 ⟨rfl, hb9⟩)
        go_ret
        exact ⟨rfl, HR.out.1.trans (hb9.mono HR.out.1.size)⟩

/-! ### THE ROW's STEP: WRITTEN OUT: LEAVE IT -/
set_option maxRecDepth 100000 in
theorem lifted (os : Os) (started : os.Started) (H : Type) (enc : TypeId × Value → H) :
    ReturnsInHanded {} Try.checked os 10 .any (Rows.charsLongSpec.pre6 enc Try.prog Try.f10 Rows.charsLongRow.domain false) (Rows.charsLongSpec.post enc Try.prog Try.f10 false true false false) := by
  refine returnsInHanded_of_change (C := Try.checked) own started (by kernel_rfl) Try.func10
    (ChangeSpec.witness6 (enc := enc) (C := Try.checked) false ⟨#[], #[.int .i64 0], []⟩ 8 (by kernel_rfl) (by kernel_rfl) (by kernel_rfl) (by kernel_rfl)) ?_
  intro W base args ds gs before hval0 hW hcnd _
  have hval : ∀ (j : Nat) t v, Try.f10.params[j]? = some t → args[j]? = some v → Value.okWide Try.prog W .any base t v := hval0
  have hW' := hW
  obtain ⟨p, q, hA0, hV, rfl, hfz, hnd⟩ := hW
  have hA : DataW.TrodAll enc Try.prog W 0 (fun _ => true) true Try.f10.params.toList args.toList ds p := hA0
  rw [Try.params10] at hA hval
  obtain ⟨v0, vs0, d0, ds0, p0, q0, hargs, rfl, rfl, h0, r0⟩ := trodAll_cons hA
  obtain ⟨rfl, rfl, rfl⟩ := trodAll_nil r0
  obtain rfl : args = #[v0] := by cases args; simp_all
  obtain ⟨rfl, rfl⟩ := trodVars_none hV
  obtain ⟨a0, rfl, rfl, rfl, w0⟩ := open_int Try.underlying3 (hval 0 3 v0 rfl rfl) h0
  clear hA0 hval0
  refine (walk a0 w0 W).mono fun e W' ⟨he, hg⟩ => ?_
  subst he
  exact ⟨_, rfl, _, _, _, [], [], [], hW', trodAll_mk1 (shut_bool Try.underlying4 _), (trodAll_cons_mk (shut_int Try.underlying3 w0) trodAll_mk0), rfl, hg.frame _, fun h => by cases h⟩

theorem over : Rows.charsLongRow.holds Try.pinned (OpenSpec.ofChange Rows.charsLongSpec) :=
  OpenClaim.holds_of_wide 10 Try.f10 rfl rfl rfl rfl rfl rfl rfl ⟨rfl, rfl, rfl, rfl, rfl⟩ rfl rfl rfl rfl rfl (by kernel_rfl) Try.func10 (by kernel_rfl)
    (of_decide_eq_true (by kernel_rfl)) (by unfold Func.isWrapper; first | (rw [if_pos (by decide +kernel)]; kernel_rfl) | (rw [if_neg (by decide +kernel)]; exact ⟨rfl, rfl⟩))
    (fun os started H enc _ => lifted os started H enc)

/-- ████ THE STATEMENT ████ -/
theorem proved : Rows.CharsLongSaid :=
  over
#print axioms proved
end Go.Proofs.Ytpcbpblckecfiaa.charsLong
