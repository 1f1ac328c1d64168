/-
  Proved: the card of the law 'scholium/scholiumlaw12.InlineTags' (for every input it returns true, and every argument reads as it did before; the package variables that the row lists are tied to the program's text). No conditions.
-/
import Derived.Test.YtclgahmgoiobaaaGreatDoorRows
import Derived.Test.YtclgahmgoiobaaaGreatDoorCards
import Derived.Test.YtclgahmgoiobaaaGreatDoorTie
import Derived.Test.YtclgahmgoiobaaaGreatDoorMA
import Derived.Test.YtclgahmgoiobaaaGreatDoorMC
import Derived.Test.YtclgahmgoiobaaaGreatDoorMI
import Derived.WalkKit
import Derived.ProofKit
import Derived.OpenShut
import Derived.ShutString
import Derived.ChangeOld
import Derived.Below
import Derived.LaidMore
import Derived.Lay
import Derived.SevenTiedAt
namespace Go.Proofs.YtclgahmgoiobaaaGreatDoor.inlineTags
open Go.ChangeShapes Go.WideShapes Go.ChangeAt Go.RowKit
open Go.ChangeMaps (open_string shut_string)
set_option linter.unusedVariables false

theorem own : ownKnob Tryz.prog.godebug = none := by kernel_rfl
theorem laidOut : laidOutB Tryz.prog = true := by kernel_rfl

/-- A slice of integers that came in. -/
def IsRow (k : IntKind) (w : World) (a : Option Addr) (len cap : Nat) (zs : List Int) : Prop :=
  (a = none ∧ len = 0 ∧ cap = 0 ∧ zs = []) ∨
  ∃ x, a = some x ∧ len ≤ cap ∧ cap ≤ maxLen ∧ zs.length = cap ∧ (∀ i, i < zs.length → w.cell? (x.add i) = some (.int k (zs.getD i 0))) ∧ ∀ n ∈ zs, (Lit.int k n).wf = true

set_option linter.unusedSimpArgs false
theorem tag_str : strOfNums [33, 33, 115, 116, 114] = (⟨#[33, 33, 115, 116, 114]⟩ : ByteArray) := rfl
theorem tag_seq : strOfNums [33, 33, 115, 101, 113] = (⟨#[33, 33, 115, 101, 113]⟩ : ByteArray) := rfl
theorem tag_map : strOfNums [33, 33, 109, 97, 112] = (⟨#[33, 33, 109, 97, 112]⟩ : ByteArray) := rfl
theorem tag_null : strOfNums [33, 33, 110, 117, 108, 108] = (⟨#[33, 33, 110, 117, 108, 108]⟩ : ByteArray) := rfl
def tgK (k : Nat) : Int := [2, 3, 4, 0, 1].getD k 0
def tgN (k q : Nat) (v : List Int) : ByteArray := strOfNums (inTag (tgK k) (q : Int) [] v)
theorem own_tag (x y : Int) (v : List Int) : strOfNums (inTag x y (byt ⟨#[33, 111, 119, 110]⟩) v) = ⟨#[33, 111, 119, 110]⟩ := by
  unfold inTag; rw [if_pos (by decide)]; rfl
def tgO (k : Nat) : ByteArray := if k = 0 then ⟨#[33, 33, 115, 101, 113]⟩ else if k = 1 then ⟨#[33, 33, 109, 97, 112]⟩ else if k = 2 then ⟨#[]⟩ else if k = 3 then ⟨#[33, 33, 110, 117, 108, 108]⟩ else ⟨#[33, 33, 115, 116, 114]⟩
def tgS (k : Nat) : ByteArray := if k = 0 then ⟨#[33, 33, 115, 101, 113]⟩ else if k = 1 then ⟨#[33, 33, 109, 97, 112]⟩ else if k = 2 then ⟨#[]⟩ else ⟨#[33, 33, 115, 116, 114]⟩
theorem tgN_is (k q : Nat) (hk : k < 5) (v : List Int) (h : k = 4 → q ≠ 1) : tgN k q v = tgO k := by
  obtain rfl | rfl | rfl | rfl | rfl : k = 0 ∨ k = 1 ∨ k = 2 ∨ k = 3 ∨ k = 4 := by omega
  · rfl
  · rfl
  · rfl
  · rfl
  · have hq : ¬ ((q : Int) = 1) := by have := h rfl; omega
    show strOfNums (inTag 1 (q : Int) [] v) = _
    unfold inTag
    rw [if_neg (by decide), if_neg (by decide), if_neg (by decide), if_neg (by decide), if_neg (by decide), if_neg (by rintro ⟨_, h, _⟩; exact hq h)]
    rfl
theorem tgS_is (k q : Nat) (hk : k < 5) (v : List Int) : strOfNums (inTag (tgK k) (q : Int) [33] v) = tgS k := by
  obtain rfl | rfl | rfl | rfl | rfl : k = 0 ∨ k = 1 ∨ k = 2 ∨ k = 3 ∨ k = 4 := by omega
  · rfl
  · rfl
  · rfl
  · rfl
  · show strOfNums (inTag 1 (q : Int) [33] v) = _
    unfold inTag
    rw [if_neg (by decide), if_neg (by decide), if_neg (by decide), if_neg (by decide), if_neg (by decide), if_neg (by rintro ⟨_, _, h⟩; cases h)]
    rfl
theorem int_12 : strOfNums (inTag 1 1 (byt ⟨#[]⟩) (byt ⟨#[49, 50]⟩)) = ⟨#[33, 33, 105, 110, 116]⟩ := by decide +kernel
theorem str_12 : strOfNums (inTag 1 3 (byt ⟨#[]⟩) (byt ⟨#[49, 50]⟩)) = ⟨#[33, 33, 115, 116, 114]⟩ := by decide +kernel
theorem tg_div (a : Int) (h : -9223372036854775808 ≤ a ∧ a ≤ 9223372036854775807) : -9223372036854775808 ≤ a.tdiv 5 ∧ a.tdiv 5 ≤ 9223372036854775807 := by
  rcases Int.le_total 0 a with h0 | h0
  · have h1 : 0 ≤ a.tdiv 5 := Int.tdiv_nonneg h0 (by omega)
    have h2 : a.tdiv 5 ≤ a := by rw [Int.tdiv_eq_ediv_of_nonneg h0]; omega
    omega
  · have h1 : 0 ≤ (-a).tdiv 5 := Int.tdiv_nonneg (by omega) (by omega)
    have h2 : (-a).tdiv 5 ≤ -a := by rw [Int.tdiv_eq_ediv_of_nonneg (by omega)]; omega
    rw [Int.neg_tdiv] at h1 h2
    omega
set_option maxHeartbeats 4000000 in
set_option maxRecDepth 100000 in
theorem walk (a0 : Int) (a1 : ByteArray) (w : World) (w0 : (Lit.int .i64 a0).wf = true) (w1 : a1.size ≤ maxLen) (hSM : Shorts w ∧ MaxL w) :
    Calls Tryz.prog 4 #[.int .i64 a0, .string a1] w fun e w' => e = .returned (.bool true) ∧ Below w.heap.size w w' := by
  have hb0 := bounds_i64 w0
  clear w0
  have hq5 := tg_div a0 hb0
  obtain ⟨k, hk, hk5⟩ : ∃ k : Nat, a0 % 5 = (k : Int) ∧ k < 5 := ⟨(a0 % 5).toNat, by omega, by omega⟩
  obtain ⟨q, hq, hq6⟩ : ∃ q : Nat, (a0.tdiv 5) % 6 = (q : Int) ∧ q < 6 := ⟨((a0.tdiv 5) % 6).toNat, by omega, by omega⟩
  have r5 : IntKind.i64.wrap (a0.tdiv 5) = a0.tdiv 5 := IntWalk.i64_in _ (by omega)
  have HS := Lib.hid hSM.1
  have HM := Lib.hid hSM.2
  have HW := Lib.hid w1
  clear hSM w1
  obtain ⟨W0, hW0⟩ : ∃ W0, W0 = w := ⟨_, rfl⟩
  rw [← hW0] at HS HM ⊢
  clear hW0
  go_enter Tryz.func4, Tryz.ntmps4
  go_upto_region 1 with fail
  go_cut [1] (fun s W => ∃ t : ByteArray, s = .string t ∧ t.size ≤ 20 ∧ W0 = W)
  case first =>
    go_wp2_with fail
    refine (text_any a1 20 _ (by omega) HW.out).mono ?_
    rintro e w' ⟨t, _, ht, rfl, rfl⟩
    go_wp2_with fail
    go_meet
    exact ⟨t, rfl, ht, rfl⟩
  case rest =>
  obtain ⟨t, rfl, ht, hW⟩ := hcut
  subst hW
  go_upto_region 2 with fail
  go_cut [5, 6] (fun s t W' => s = .int .i64 (tgK k) ∧ t = .int .i64 (q : Int) ∧ Hid (Below W0.heap.size W0 W'))
  case first =>
    obtain rfl | rfl | rfl | rfl | rfl : k = 0 ∨ k = 1 ∨ k = 2 ∨ k = 3 ∨ k = 4 := by omega
    all_goals
      go_region_with (go_at_call 11; refine (within_any _ _ _ (by omega) (by omega) (by assumption)).mono ?_; rintro e w' ⟨rfl, rfl⟩)
      all_goals
        go_wp2_with fail
        go_meet
        refine ⟨?_, ?_, ?_⟩
        · first | rfl | simp [tgK]
        · first | rfl | rw [hq] | simp [hq]
        · first | exact ((Below.refl _ _).alloc (Nat.le_refl _) _).drew | exact ((Below.refl _ _).drew.alloc (Nat.le_refl _) _)
  case rest =>
  obtain ⟨rfl, rfl, HB⟩ := hcut
  clear hb0 hq5 r5 hq hk
  obtain ⟨n, hn⟩ : ∃ n, tgN k q (byt t) = n := ⟨_, rfl⟩
  have HN := Lib.hid hn
  have HSG := Lib.hid (tgS_is k q hk5 (byt t))
  have HNO := Lib.hid (fun h => tgN_is k q hk5 (byt t) h)
  clear hn
  go_wp2_with fail
  refine (tag_at HB.out (tgK k) (q : Int) _ t (by omega) _ (own_tag _ _ _)).mono ?_
  rintro e W1 ⟨rfl, hb⟩
  have HB1 := Lib.hid hb
  clear hb HB
  go_wp2_with fail
  refine (tag_at HB1.out (tgK k) (q : Int) ⟨#[]⟩ t (by omega) n HN.out).mono ?_
  rintro e W2 ⟨rfl, hb⟩
  have HB2 := Lib.hid hb
  clear hb HB1
  go_wp2_with fail
  refine (tag_at HB2.out (tgK k) (q : Int) ⟨#[33]⟩ t (by omega) (tgS k) HSG.out).mono ?_
  rintro e W3 ⟨rfl, hb⟩
  have HB3 := Lib.hid hb
  clear hb HB2 HSG
  by_cases hk4 : k < 4
  · obtain rfl : n = tgO k := by rw [← HN.out]; exact HNO.out (by omega)
    clear HN HNO
    obtain rfl | rfl | rfl | rfl : k = 0 ∨ k = 1 ∨ k = 2 ∨ k = 3 := by omega
    all_goals
      simp only [tgK, tgO, tgS, List.getD_cons_zero, List.getD_cons_succ]
      go_wp2_with (go_at_call 13; refine (wakes_at HB3.out HS.out HM.out).mono ?_; rintro e w9 ⟨rfl, hb9⟩)
      go_ret
      exact ⟨rfl, hb9⟩
  · obtain rfl : k = 4 := by omega
    by_cases hq1 : q = 1
    · subst hq1
      simp only [tgK, tgS, List.getD_cons_zero, List.getD_cons_succ]
      clear HN HNO
      go_wp2_with fail
      refine (tag_at HB3.out 1 1 ⟨#[]⟩ ⟨#[49, 50]⟩ (by decide) _ int_12).mono ?_
      rintro e W4 ⟨rfl, hb⟩
      have HB4 := Lib.hid hb
      clear hb
      go_wp2_with fail
      refine (tag_at HB4.out 1 3 ⟨#[]⟩ ⟨#[49, 50]⟩ (by decide) _ str_12).mono ?_
      rintro e W5 ⟨rfl, hb⟩
      have HB5 := Lib.hid hb
      clear hb
      go_wp2_with fail
      refine (wakes_at HB5.out HS.out HM.out).mono ?_
      rintro e W6 ⟨rfl, hb⟩
      have HB6 := Lib.hid hb
      clear hb
      go_wp2_with fail
      go_ret
      exact ⟨rfl, HB6.out⟩
    · obtain rfl : n = tgO 4 := by rw [← HN.out]; exact HNO.out (fun _ => hq1)
      have dq : ((q : Int) != 1) = true := by rw [bne_iff_ne]; omega
      simp only [tgK, tgO, tgS, List.getD_cons_zero, List.getD_cons_succ]
      clear HN HNO
      go_wp2_with fail
      refine (tag_at HB3.out 1 1 ⟨#[]⟩ ⟨#[49, 50]⟩ (by decide) _ int_12).mono ?_
      rintro e W4 ⟨rfl, hb⟩
      have HB4 := Lib.hid hb
      clear hb
      go_wp2_with fail
      refine (tag_at HB4.out 1 3 ⟨#[]⟩ ⟨#[49, 50]⟩ (by decide) _ str_12).mono ?_
      rintro e W5 ⟨rfl, hb⟩
      have HB5 := Lib.hid hb
      clear hb
      go_wp2_with fail
      refine (wakes_at HB5.out HS.out HM.out).mono ?_
      rintro e W6 ⟨rfl, hb⟩
      have HB6 := Lib.hid hb
      clear hb
      go_wp2_with fail
      go_ret
      exact ⟨rfl, HB6.out⟩


set_option maxRecDepth 100000 in
theorem lifted (os : Os) (started : os.Started) (H : Type) (enc : TypeId × Value → H) :
    ReturnsInHanded {} Tryz.checked os 4 .any (fun w args => (Rows.inlineTagsSpec.pre enc Tryz.prog Tryz.f4 Rows.inlineTagsRow.domain false w args ∧ laidMetH Tryz.prog Rows.inlineTagsRow.laid w) ∧ sizedMet enc Tryz.prog Tryz.f4 (OpenSpec.ofChange Rows.inlineTagsSpec) false w args)
      (Rows.inlineTagsSpec.post enc Tryz.prog Tryz.f4 false true false false) := by
  refine returns_listed (C := Tryz.checked) (X := fun w _ => laidMetH Tryz.prog Rows.inlineTagsRow.laid w) (fun _ _ _ hh h => h.of_heap hh) own started (by kernel_rfl) Tryz.func4
    (ChangeSpec.witness_shaped (enc := enc) (C := Tryz.checked) (os := os) (X := fun w _ => laidMetH Tryz.prog Rows.inlineTagsRow.laid w) false (World.laidAll Tryz.prog os Rows.inlineTagsRow.laid) #[.int .i64 0, .string ByteArray.empty] 8 (World.laidAll_os _ _ _)
      (World.shaped_of_ZipB (by kernel_rfl) (by kernel_rfl)) (by kernel_rfl) (by kernel_rfl) (by kernel_rfl)
      (by rw [MakeChecks.laidMetH_plain _ _ _ (by kernel_rfl)]; exact laidMet_laidAll _ (by kernel_rfl) (by kernel_rfl))) ?_
  intro W base args ds gs before hval0 hW hX hsh
  have hval : ∀ (j : Nat) t v, Tryz.f4.params[j]? = some t → args[j]? = some v → Value.okWide Tryz.prog W .any base t v := hval0
  have hW' := hW
  obtain ⟨p, q, hA0, hV, rfl, hfz, hnd⟩ := hW
  have hA : DataW.TrodAll enc Tryz.prog W 0 (fun _ => true) true Tryz.f4.params.toList args.toList ds p := hA0
  rw [Tryz.params4] at hA hval
  obtain ⟨v0, vs0, d0, ds0, p0, q0, hargs, rfl, rfl, h0, r0⟩ := trodAll_cons hA
  obtain ⟨v1, vs1, d1, ds1, p1, q1, rfl, rfl, rfl, h1, r1⟩ := trodAll_cons r0
  obtain ⟨rfl, rfl, rfl⟩ := trodAll_nil r1
  obtain rfl : args = #[v0, v1] := by cases args; simp_all
  obtain ⟨rfl, rfl⟩ := trodVars_none hV
  obtain ⟨a0, rfl, rfl, rfl, w0⟩ := open_int Tryz.underlying3 (hval 0 3 v0 rfl rfl) h0
  obtain ⟨a1, rfl, rfl, rfl, w1⟩ := open_string Tryz.underlying9 (hval 1 9 v1 rfl rfl) h1
  clear hA0 hval0
  refine (walk a0 a1 W w0 w1 (⟨shorts_in hX (by kernel_rfl) (List.mem_of_getElem? (i := 1) rfl), maxL_shaped hsh⟩)).mono fun e W' ⟨he, bel⟩ => ?_
  subst he
  exact ⟨_, rfl, _, _, _, [], _, [], hW', trodAll_mk1 (shut_bool Tryz.underlying4 _), (trodAll_cons_mk (shut_int Tryz.underlying3 w0) (trodAll_cons_mk (shut_string Tryz.underlying9 w1) trodAll_mk0)), rfl, bel.frame _, fun h => by cases h⟩

theorem over : Rows.inlineTagsRow.holds Tryz.pinned (OpenSpec.ofChange Rows.inlineTagsSpec) :=
  OpenClaim.holds_of_wide 4 Tryz.f4 rfl rfl rfl rfl rfl rfl rfl ⟨rfl, rfl, rfl, rfl, rfl⟩ rfl rfl rfl rfl rfl (by kernel_rfl) Tryz.func4 (by kernel_rfl)
    (of_decide_eq_true (by kernel_rfl)) (by unfold Func.isWrapper; first | (rw [if_pos (by decide +kernel)]; kernel_rfl) | (rw [if_neg (by decide +kernel)]; exact ⟨rfl, rfl⟩))
    (fun os started H enc _ => lifted os started H enc)

theorem proved : Rows.InlineTagsCardSaid :=
  Claim7.holds_tied_plain_at .later [] [.data, .data, .pinned] true (true, "4c36b2f9cd6a1b99684a7d4c76e052a99f27488d72e5643796983d408aa86e83") false over (fun _ h => by cases h) (by kernel_rfl) (fun _ h => by cases h) inlineTags_row_tie rfl ⟨rfl, rfl⟩ (by kernel_rfl) rfl
    (fun f fn hf hfn => by
      obtain rfl : f = 4 := Option.some.inj ((show Tryz.prog.funcNamed Rows.inlineTagsRow.func = some 4 by kernel_rfl).symm.trans hf) |>.symm
      obtain rfl : fn = Tryz.f4 := (Option.some.inj (Tryz.func4.symm.trans hfn)).symm
      exact ⟨by kernel_rfl, fun j t ht => by
        rw [Tryz.params4] at ht
        have hm : t ∈ [3, 9] := by simpa using Array.mem_of_getElem? ht
        have hall : ([3, 9].all fun u => !Tryz.prog.wantsStandIn u) = true := by kernel_rfl
        exact (show Tryz.prog.wantsStandIn t = false by simpa using List.all_eq_true.1 hall t hm)⟩)
    (by kernel_rfl)
#print axioms proved
end Go.Proofs.YtclgahmgoiobaaaGreatDoor.inlineTags
