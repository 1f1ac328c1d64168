/-
  Proved: the card of the law 'scholium/scholiumlaw12.InlineDeep' (for every input it returns true, and every argument reads as it did before; the package variables that the row lists are tied to the program's text). No conditions.
-/
import Derived.Test.YtclgahmgoiobaaaGreatDoorRows
import Derived.Test.YtclgahmgoiobaaaGreatDoorCards
import Derived.Test.YtclgahmgoiobaaaGreatDoorTie
import Derived.Test.YtclgahmgoiobaaaGreatDoorMA
import Derived.Test.YtclgahmgoiobaaaGreatDoorMC
import Derived.Test.YtclgahmgoiobaaaGreatDoorMI
import Derived.WalkKit
import Derived.ProofKit
import Derived.OpenShut
import Derived.ShutString
import Derived.ChangeOld
import Derived.Below
import Derived.LaidMore
import Derived.Lay
import Derived.SevenTiedAt
namespace Go.Proofs.YtclgahmgoiobaaaGreatDoor.inlineDeep
open Go.ChangeShapes Go.WideShapes Go.ChangeAt Go.RowKit
open Go.ChangeMaps (open_string shut_string)
set_option linter.unusedVariables false

theorem own : ownKnob Tryz.prog.godebug = none := by kernel_rfl
theorem laidOut : laidOutB Tryz.prog = true := by kernel_rfl

/-- A slice of integers that came in. -/
def IsRow (k : IntKind) (w : World) (a : Option Addr) (len cap : Nat) (zs : List Int) : Prop :=
  (a = none ∧ len = 0 ∧ cap = 0 ∧ zs = []) ∨
  ∃ x, a = some x ∧ len ≤ cap ∧ cap ≤ maxLen ∧ zs.length = cap ∧ (∀ i, i < zs.length → w.cell? (x.add i) = some (.int k (zs.getD i 0))) ∧ ∀ n ∈ zs, (Lit.int k n).wf = true

set_option linter.unusedSimpArgs false
def rp (p : List Int) (k : Nat) : List Int := (List.replicate k p).flatten
theorem rp_pre (p : List Int) (k : Nat) : p ++ rp p k = rp p (k + 1) := by unfold rp; rw [List.replicate_succ, List.flatten_cons]
theorem rp_post (p : List Int) (k : Nat) : rp p k ++ p = rp p (k + 1) := by unfold rp; rw [List.replicate_succ', List.flatten_append]; simp
theorem rp_len (p : List Int) : ∀ k, (rp p k).length = k * p.length
  | 0 => by simp [rp]
  | k + 1 => by rw [← rp_pre, List.length_append, rp_len p k, Nat.succ_mul, Nat.add_comm]
def dpT (m : Bool) (n : Nat) : List Int := rp (if m then [123, 97, 58, 32] else [91]) n ++ ([120] ++ rp (if m then [125] else [93]) n)
def dpB (m : Bool) (n : Nat) : Bool := match inParse (dpT m n) false with
  | .ok l => decide (n ≤ 64) && decide (n + 1 ≤ l.length)
  | .error q => decide (64 < n) && q == 3
theorem dp_all : ∀ q : Fin 3, ∀ m : Bool, dpB m (63 + q.val) = true := by decide +kernel
set_option maxRecDepth 100000
set_option maxHeartbeats 4000000 in
theorem walk (a0 : Int) (a1 : Bool) (w : World) (w0 : (Lit.int .i64 a0).wf = true) (hSM : Shorts w ∧ MaxL w) :
    Calls Tryz.prog 8 #[.int .i64 a0, .bool a1] w fun e w' => e = .returned (.bool true) ∧ Below w.heap.size w w' := by
  have hb0 := bounds_i64 w0
  have B0 : Hid (Below w.heap.size w w) := Below.refl _ _
  have HS := Lib.hid hSM.1
  have HM := Lib.hid hSM.2
  clear hSM
  go_enter Tryz.func8, Tryz.ntmps8
  go_wp2_with fail
  refine (within_nat a0 3 _ (by omega) (by omega) (by omega)).mono ?_
  rintro e w' ⟨q, hq, rfl, rfl⟩
  go_wp2_with fail
  go_loop [5, 6, 7] (fun s t i => ∃ (k : Nat) (x y : ByteArray), k ≤ 63 + q ∧ x.size ≤ 4 * k ∧ y.size ≤ k ∧ s = .string x ∧ t = .string y ∧ i = .int .i64 (k : Int) ∧ Hid (byt x = rp (if a1 then [123, 97, 58, 32] else [91]) k ∧ byt y = rp (if a1 then [125] else [93]) k)) (fun _ _ i => 70 - (intOf i).toNat)
  case atStart => exact ⟨0, ⟨#[]⟩, ⟨#[]⟩, by omega, by decide, by decide, rfl, rfl, rfl, rfl, rfl⟩
  case round =>
    obtain ⟨k, x, y, hk, hx, hy, rfl, rfl, rfl, HT⟩ := hrel
    by_cases hlt : k < 63 + q
    · have hd : (k : Int) < 63 + (q : Int) := by omega
      cases a1 with
      | true =>
        go_wp2_with fail
        go_round
        case rel =>
          have h1 : byt (x ++ ⟨#[123, 97, 58, 32]⟩) = rp [123, 97, 58, 32] (k + 1) := by rw [byt_append, HT.out.1, ← rp_post]; rfl
          have h2 : byt ((⟨#[125]⟩ : ByteArray) ++ y) = rp [125] (k + 1) := by rw [byt_append, HT.out.2, ← rp_pre]; rfl
          exact ⟨k + 1, _, _, by omega, by rw [← byt_len, h1, rp_len]; simp; omega, by rw [← byt_len, h2, rp_len]; simp, rfl, rfl, by go_num, h1, h2⟩
        case measure => simp [intOf]; omega
      | false =>
        go_wp2_with fail
        go_round
        case rel =>
          have h1 : byt (x ++ ⟨#[91]⟩) = rp [91] (k + 1) := by rw [byt_append, HT.out.1, ← rp_post]; rfl
          have h2 : byt ((⟨#[93]⟩ : ByteArray) ++ y) = rp [93] (k + 1) := by rw [byt_append, HT.out.2, ← rp_pre]; rfl
          exact ⟨k + 1, _, _, by omega, by rw [← byt_len, h1, rp_len]; simp; omega, by rw [← byt_len, h2, rp_len]; simp, rfl, rfl, by go_num, h1, h2⟩
        case measure => simp [intOf]; omega
    · obtain rfl : k = 63 + q := by omega
      obtain ⟨u, hu⟩ : ∃ u, x ++ (⟨#[120]⟩ : ByteArray) = u := ⟨_, rfl⟩
      obtain ⟨v, hv⟩ : ∃ v, u ++ y = v := ⟨_, rfl⟩
      have hvb : byt v = dpT a1 (63 + q) := by rw [← hv, ← hu, byt_append, byt_append, HT.out.1, HT.out.2, dpT, List.append_assoc]; rfl
      have hus : u.size ≤ 300 := by rw [← hu, ByteArray.size_append]; have : (⟨#[120]⟩ : ByteArray).size = 1 := rfl; omega
      have hvs : v.size ≤ 400 := by rw [← hv, ByteArray.size_append]; omega
      have hdp := dp_all ⟨q, hq⟩ a1
      simp only at hdp
      unfold dpB at hdp
      obtain ⟨r, hr⟩ : ∃ r, inParse (dpT a1 (63 + q)) false = r := ⟨_, rfl⟩
      rw [hr] at hdp
      have HP := Lib.hid (parse_at B0.out HS.out HM.out v (by omega) false r (by rw [hvb]; exact hr))
      clear hvb hr hlt
      go_wp2_with fail
      refine HP.out.mono ?_
      clear HP
      intro e w1 h1
      cases r with
      | error z =>
        obtain ⟨rfl, hb1, _⟩ := h1
        simp only [Bool.and_eq_true, decide_eq_true_eq, beq_iff_eq] at hdp
        obtain ⟨h64, rfl⟩ := hdp
        have hd : (64 : Int) < 63 + (q : Int) := by omega
        have HB1 := Lib.hid hb1
        clear hb1
        go_wp2_with (go_at_call 13; refine (wakes_at HB1.out HS.out HM.out).mono ?_; rintro e w9 ⟨rfl, hb9⟩)
        go_ret
        exact ⟨rfl, hb9⟩
      | ok l =>
        obtain ⟨vv, rfl, hL, hb1⟩ := h1
        simp only [Bool.and_eq_true, decide_eq_true_eq] at hdp
        obtain ⟨h64, hln⟩ := hdp
        obtain ⟨g, cap, rfl, hc1, hc2, _⟩ := hL.look (by omega)
        have hd : ¬ (64 : Int) < 63 + (q : Int) := by omega
        have hd2 : (63 : Int) + (q : Int) + 1 ≤ (l.length : Int) := by omega
        have HB1 := Lib.hid hb1
        clear hb1 hL
        go_wp2_with (go_at_call 13; refine (wakes_at HB1.out HS.out HM.out).mono ?_; rintro e w9 ⟨rfl, hb9⟩)
        go_ret
        exact ⟨rfl, hb9⟩


set_option maxRecDepth 100000 in
theorem lifted (os : Os) (started : os.Started) (H : Type) (enc : TypeId × Value → H) :
    ReturnsInHanded {} Tryz.checked os 8 .any (fun w args => (Rows.inlineDeepSpec.pre enc Tryz.prog Tryz.f8 Rows.inlineDeepRow.domain false w args ∧ laidMetH Tryz.prog Rows.inlineDeepRow.laid w) ∧ sizedMet enc Tryz.prog Tryz.f8 (OpenSpec.ofChange Rows.inlineDeepSpec) false w args)
      (Rows.inlineDeepSpec.post enc Tryz.prog Tryz.f8 false true false false) := by
  refine returns_listed (C := Tryz.checked) (X := fun w _ => laidMetH Tryz.prog Rows.inlineDeepRow.laid w) (fun _ _ _ hh h => h.of_heap hh) own started (by kernel_rfl) Tryz.func8
    (ChangeSpec.witness_shaped (enc := enc) (C := Tryz.checked) (os := os) (X := fun w _ => laidMetH Tryz.prog Rows.inlineDeepRow.laid w) false (World.laidAll Tryz.prog os Rows.inlineDeepRow.laid) #[.int .i64 0, .bool false] 8 (World.laidAll_os _ _ _)
      (World.shaped_of_ZipB (by kernel_rfl) (by kernel_rfl)) (by kernel_rfl) (by kernel_rfl) (by kernel_rfl)
      (by rw [MakeChecks.laidMetH_plain _ _ _ (by kernel_rfl)]; exact laidMet_laidAll _ (by kernel_rfl) (by kernel_rfl))) ?_
  intro W base args ds gs before hval0 hW hX hsh
  have hval : ∀ (j : Nat) t v, Tryz.f8.params[j]? = some t → args[j]? = some v → Value.okWide Tryz.prog W .any base t v := hval0
  have hW' := hW
  obtain ⟨p, q, hA0, hV, rfl, hfz, hnd⟩ := hW
  have hA : DataW.TrodAll enc Tryz.prog W 0 (fun _ => true) true Tryz.f8.params.toList args.toList ds p := hA0
  rw [Tryz.params8] at hA hval
  obtain ⟨v0, vs0, d0, ds0, p0, q0, hargs, rfl, rfl, h0, r0⟩ := trodAll_cons hA
  obtain ⟨v1, vs1, d1, ds1, p1, q1, rfl, rfl, rfl, h1, r1⟩ := trodAll_cons r0
  obtain ⟨rfl, rfl, rfl⟩ := trodAll_nil r1
  obtain rfl : args = #[v0, v1] := by cases args; simp_all
  obtain ⟨rfl, rfl⟩ := trodVars_none hV
  obtain ⟨a0, rfl, rfl, rfl, w0⟩ := open_int Tryz.underlying3 (hval 0 3 v0 rfl rfl) h0
  obtain ⟨a1, rfl, rfl, rfl⟩ := open_bool Tryz.underlying4 (hval 1 4 v1 rfl rfl) h1
  clear hA0 hval0
  refine (walk a0 a1 W w0 (⟨shorts_in hX (by kernel_rfl) (List.mem_of_getElem? (i := 1) rfl), maxL_shaped hsh⟩)).mono fun e W' ⟨he, bel⟩ => ?_
  subst he
  exact ⟨_, rfl, _, _, _, [], _, [], hW', trodAll_mk1 (shut_bool Tryz.underlying4 _), (trodAll_cons_mk (shut_int Tryz.underlying3 w0) (trodAll_cons_mk (shut_bool Tryz.underlying4 _) trodAll_mk0)), rfl, bel.frame _, fun h => by cases h⟩

theorem over : Rows.inlineDeepRow.holds Tryz.pinned (OpenSpec.ofChange Rows.inlineDeepSpec) :=
  OpenClaim.holds_of_wide 8 Tryz.f8 rfl rfl rfl rfl rfl rfl rfl ⟨rfl, rfl, rfl, rfl, rfl⟩ rfl rfl rfl rfl rfl (by kernel_rfl) Tryz.func8 (by kernel_rfl)
    (of_decide_eq_true (by kernel_rfl)) (by unfold Func.isWrapper; first | (rw [if_pos (by decide +kernel)]; kernel_rfl) | (rw [if_neg (by decide +kernel)]; exact ⟨rfl, rfl⟩))
    (fun os started H enc _ => lifted os started H enc)

theorem proved : Rows.InlineDeepCardSaid :=
  Claim7.holds_tied_plain_at .later [] [.data, .data, .pinned] true (true, "4c36b2f9cd6a1b99684a7d4c76e052a99f27488d72e5643796983d408aa86e83") false over (fun _ h => by cases h) (by kernel_rfl) (fun _ h => by cases h) inlineDeep_row_tie rfl ⟨rfl, rfl⟩ (by kernel_rfl) rfl
    (fun f fn hf hfn => by
      obtain rfl : f = 8 := Option.some.inj ((show Tryz.prog.funcNamed Rows.inlineDeepRow.func = some 8 by kernel_rfl).symm.trans hf) |>.symm
      obtain rfl : fn = Tryz.f8 := (Option.some.inj (Tryz.func8.symm.trans hfn)).symm
      exact ⟨by kernel_rfl, fun j t ht => by
        rw [Tryz.params8] at ht
        have hm : t ∈ [3, 4] := by simpa using Array.mem_of_getElem? ht
        have hall : ([3, 4].all fun u => !Tryz.prog.wantsStandIn u) = true := by kernel_rfl
        exact (show Tryz.prog.wantsStandIn t = false by simpa using List.all_eq_true.1 hall t hm)⟩)
    (by kernel_rfl)
#print axioms proved
end Go.Proofs.YtclgahmgoiobaaaGreatDoor.inlineDeep
