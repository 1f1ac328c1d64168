/-
  Proved: the card of the law 'scholium/scholiumlaw12.InlineKeys' (for every input it returns true, and every argument reads as it did before; the package variables that the row lists are tied to the program's text). No conditions.
-/
import Derived.Test.YtclgahmgoiobaaaGreatDoorRows
import Derived.Test.YtclgahmgoiobaaaGreatDoorCards
import Derived.Test.YtclgahmgoiobaaaGreatDoorTie
import Derived.Test.YtclgahmgoiobaaaGreatDoorMA
import Derived.Test.YtclgahmgoiobaaaGreatDoorMC
import Derived.Test.YtclgahmgoiobaaaGreatDoorMJ
import Derived.WalkKit
import Derived.ProofKit
import Derived.OpenShut
import Derived.ShutString
import Derived.ChangeOld
import Derived.Below
import Derived.LaidMore
import Derived.Lay
import Derived.SevenTiedAt
namespace Go.Proofs.YtclgahmgoiobaaaGreatDoor.inlineKeys
open Go.ChangeShapes Go.WideShapes Go.ChangeAt Go.RowKit
open Go.ChangeMaps (open_string shut_string)
set_option linter.unusedVariables false

theorem own : ownKnob Tryz.prog.godebug = none := by kernel_rfl
theorem laidOut : laidOutB Tryz.prog = true := by kernel_rfl

/-- A slice of integers that came in. -/
def IsRow (k : IntKind) (w : World) (a : Option Addr) (len cap : Nat) (zs : List Int) : Prop :=
  (a = none ∧ len = 0 ∧ cap = 0 ∧ zs = []) ∨
  ∃ x, a = some x ∧ len ≤ cap ∧ cap ≤ maxLen ∧ zs.length = cap ∧ (∀ i, i < zs.length → w.cell? (x.add i) = some (.int k (zs.getD i 0))) ∧ ∀ n ∈ zs, (Lit.int k n).wf = true

set_option linter.unusedSimpArgs false
set_option maxHeartbeats 4000000 in
set_option maxRecDepth 100000 in
theorem walk (a0 : Int) (a1 : Bool) (w : World) (w0 : (Lit.int .i64 a0).wf = true) (hSM : Shorts w ∧ MaxL w) :
    Calls Tryz.prog 5 #[.int .i64 a0, .bool a1] w fun e w' => e = .returned (.bool true) ∧ Below w.heap.size w w' := by
  have hb0 := bounds_i64 w0
  have B0 : Hid (Below w.heap.size w w) := Below.refl _ _
  have HS := Lib.hid hSM.1
  have HM := Lib.hid hSM.2
  clear hSM
  go_enter Tryz.func5, Tryz.ntmps5
  go_wp2_with fail
  refine (within_nat a0 5 _ (by omega) (by omega) (by omega)).mono ?_
  rintro e w' ⟨q, hq, rfl, rfl⟩
  go_wp2_with fail
  go_loop [5, 6] (fun s i => ∃ (k : Nat) (x : ByteArray), k ≤ 126 + q ∧ x.size = k ∧ s = .string x ∧ i = .int .i64 (k : Int) ∧ Hid (byt x = List.replicate k 107)) (fun _ i => 140 - (intOf i).toNat)
  case atStart => exact ⟨0, ⟨#[]⟩, by omega, by decide, rfl, rfl, rfl⟩
  case round =>
    obtain ⟨k, x, hk, hx, rfl, rfl, HT⟩ := hrel
    by_cases hlt : k < 126 + q
    · have hd : (k : Int) < 126 + (q : Int) := by omega
      go_wp2_with fail
      go_round
      case rel =>
        have h1 : byt (x ++ ⟨#[107]⟩) = List.replicate (k + 1) 107 := by rw [byt_append, HT.out, ← rep_app]; rfl
        exact ⟨k + 1, _, by omega, by rw [← byt_len, h1]; simp, rfl, by go_num, h1⟩
      case measure => simp [intOf]; omega
    · obtain rfl : k = 126 + q := by omega
      cases a1 with
      | true =>
        have hn2 : ((126 : Int) + (q : Int) - 2) = ((124 + q : Nat) : Int) := by omega
        have hsl : byt (x.extract 0 (124 + q)) = List.replicate (124 + q) 107 := by
          rw [byt_extract, HT.out, List.drop_zero, List.take_replicate]; congr 1; omega
        obtain ⟨y, hy⟩ : ∃ y, x.extract 0 (124 + q) = y := ⟨_, rfl⟩
        rw [hy] at hsl
        obtain ⟨u, hu⟩ : ∃ u, (⟨#[39]⟩ : ByteArray) ++ y = u := ⟨_, rfl⟩
        obtain ⟨t, ht⟩ : ∃ t, u ++ (⟨#[39]⟩ : ByteArray) = t := ⟨_, rfl⟩
        obtain ⟨p, hp⟩ : ∃ p, (⟨#[123]⟩ : ByteArray) ++ t = p := ⟨_, rfl⟩
        obtain ⟨v, hv⟩ : ∃ v, p ++ (⟨#[58, 32, 49, 125]⟩ : ByteArray) = v := ⟨_, rfl⟩
        have hvb : byt v = 123 :: (kyT true (126 + q) ++ [58, 32, 49, 125]) := by
          rw [← hv, ← hp, ← ht, ← hu, byt_append, byt_append, byt_append, byt_append, hsl]
          show [123] ++ ([39] ++ List.replicate (124 + q) 107 ++ [39]) ++ [58, 32, 49, 125] = _
          unfold kyT
          rw [if_pos rfl, show 126 + q - 2 = 124 + q by omega]; simp
        have hys : y.size ≤ 200 := by rw [← byt_len, hsl]; simp; omega
        have hus : u.size ≤ 201 := by rw [← hu, ByteArray.size_append]; have : (⟨#[39]⟩ : ByteArray).size = 1 := rfl; omega
        have hts : t.size ≤ 202 := by rw [← ht, ByteArray.size_append]; have : (⟨#[39]⟩ : ByteArray).size = 1 := rfl; omega
        have hps : p.size ≤ 203 := by rw [← hp, ByteArray.size_append]; have : (⟨#[123]⟩ : ByteArray).size = 1 := rfl; omega
        have hvs : v.size ≤ 207 := by rw [← hv, ByteArray.size_append]; have : (⟨#[58, 32, 49, 125]⟩ : ByteArray).size = 4 := rfl; omega
        have HP := Lib.hid (keys_end B0.out HS.out HM.out true q hq v hvb (by omega))
        clear hvb hlt hsl
        go_wp2_with fail
        refine HP.out.mono ?_
        clear HP
        rintro e w1 ⟨hb1, ⟨h64, rfl⟩ | ⟨h64, g, cap, hc1, hc2, rfl, c5, c6⟩⟩
        · have hd : (128 : Int) < 126 + (q : Int) := by omega
          have HB1 := Lib.hid hb1
          clear hb1
          go_wp2_with (go_at_call 13; refine (wakes_at HB1.out HS.out HM.out).mono ?_; rintro e w9 ⟨rfl, hb9⟩)
          go_ret
          exact ⟨rfl, hb9⟩
        · have hd : ¬ (128 : Int) < 126 + (q : Int) := by omega
          have HB1 := Lib.hid hb1
          clear hb1
          have hi : (1 : Int) < 3 := by omega
          have hsub : ((1 + (126 + q) : Nat) : Int) - 1 = 126 + (q : Int) := by omega
          have heq : (((1 + (126 + q) : Nat) : Int) - 1 == 126 + (q : Int)) = true := by rw [beq_iff_eq]; omega
          obtain ⟨m, hm⟩ : ∃ m, 1 + (126 + q) = m := ⟨_, rfl⟩
          rw [hm] at c6 hsub heq
          go_wp2_with fail
          go_still_tail 21, (by kernel_rfl)
          change wpList _ _ _ _ _ w1.drew
          have HB2 : Hid (Below w.heap.size w w1.drew) := HB1.out.drew
          generalize w1.drew = w2 at HB2 ⊢
          go_wp2_with fail
          refine (wakes_at HB2.out HS.out HM.out).mono ?_
          rintro e w9 ⟨rfl, hb9⟩
          have HB9 := Lib.hid hb9
          clear hb9
          go_wp2_with fail
          go_ret
          exact ⟨rfl, HB9.out⟩
      | false =>
        obtain ⟨p, hp⟩ : ∃ p, (⟨#[123]⟩ : ByteArray) ++ x = p := ⟨_, rfl⟩
        obtain ⟨v, hv⟩ : ∃ v, p ++ (⟨#[58, 32, 49, 125]⟩ : ByteArray) = v := ⟨_, rfl⟩
        have hvb : byt v = 123 :: (kyT false (126 + q) ++ [58, 32, 49, 125]) := by
          rw [← hv, ← hp, byt_append, byt_append, HT.out]
          show [123] ++ List.replicate (126 + q) 107 ++ [58, 32, 49, 125] = _
          unfold kyT
          rw [if_neg (by decide)]; simp
        have hps : p.size ≤ 203 := by rw [← hp, ByteArray.size_append]; have : (⟨#[123]⟩ : ByteArray).size = 1 := rfl; omega
        have hvs : v.size ≤ 207 := by rw [← hv, ByteArray.size_append]; have : (⟨#[58, 32, 49, 125]⟩ : ByteArray).size = 4 := rfl; omega
        have HP := Lib.hid (keys_end B0.out HS.out HM.out false q hq v hvb (by omega))
        clear hvb hlt
        go_wp2_with fail
        refine HP.out.mono ?_
        clear HP
        rintro e w1 ⟨hb1, ⟨h64, rfl⟩ | ⟨h64, g, cap, hc1, hc2, rfl, c5, c6⟩⟩
        · have hd : (128 : Int) < 126 + (q : Int) := by omega
          have HB1 := Lib.hid hb1
          clear hb1
          go_wp2_with (go_at_call 13; refine (wakes_at HB1.out HS.out HM.out).mono ?_; rintro e w9 ⟨rfl, hb9⟩)
          go_ret
          exact ⟨rfl, hb9⟩
        · have hd : ¬ (128 : Int) < 126 + (q : Int) := by omega
          have HB1 := Lib.hid hb1
          clear hb1
          have hi : (1 : Int) < 3 := by omega
          have hsub : ((1 + (126 + q) : Nat) : Int) - 1 = 126 + (q : Int) := by omega
          have heq : (((1 + (126 + q) : Nat) : Int) - 1 == 126 + (q : Int)) = true := by rw [beq_iff_eq]; omega
          obtain ⟨m, hm⟩ : ∃ m, 1 + (126 + q) = m := ⟨_, rfl⟩
          rw [hm] at c6 hsub heq
          go_wp2_with fail
          go_still_tail 21, (by kernel_rfl)
          change wpList _ _ _ _ _ w1.drew
          have HB2 : Hid (Below w.heap.size w w1.drew) := HB1.out.drew
          generalize w1.drew = w2 at HB2 ⊢
          go_wp2_with fail
          refine (wakes_at HB2.out HS.out HM.out).mono ?_
          rintro e w9 ⟨rfl, hb9⟩
          have HB9 := Lib.hid hb9
          clear hb9
          go_wp2_with fail
          go_ret
          exact ⟨rfl, HB9.out⟩


set_option maxRecDepth 100000 in
theorem lifted (os : Os) (started : os.Started) (H : Type) (enc : TypeId × Value → H) :
    ReturnsInHanded {} Tryz.checked os 5 .any (fun w args => (Rows.inlineKeysSpec.pre enc Tryz.prog Tryz.f5 Rows.inlineKeysRow.domain false w args ∧ laidMetH Tryz.prog Rows.inlineKeysRow.laid w) ∧ sizedMet enc Tryz.prog Tryz.f5 (OpenSpec.ofChange Rows.inlineKeysSpec) false w args)
      (Rows.inlineKeysSpec.post enc Tryz.prog Tryz.f5 false true false false) := by
  refine returns_listed (C := Tryz.checked) (X := fun w _ => laidMetH Tryz.prog Rows.inlineKeysRow.laid w) (fun _ _ _ hh h => h.of_heap hh) own started (by kernel_rfl) Tryz.func5
    (ChangeSpec.witness_shaped (enc := enc) (C := Tryz.checked) (os := os) (X := fun w _ => laidMetH Tryz.prog Rows.inlineKeysRow.laid w) false (World.laidAll Tryz.prog os Rows.inlineKeysRow.laid) #[.int .i64 0, .bool false] 8 (World.laidAll_os _ _ _)
      (World.shaped_of_ZipB (by kernel_rfl) (by kernel_rfl)) (by kernel_rfl) (by kernel_rfl) (by kernel_rfl)
      (by rw [MakeChecks.laidMetH_plain _ _ _ (by kernel_rfl)]; exact laidMet_laidAll _ (by kernel_rfl) (by kernel_rfl))) ?_
  intro W base args ds gs before hval0 hW hX hsh
  have hval : ∀ (j : Nat) t v, Tryz.f5.params[j]? = some t → args[j]? = some v → Value.okWide Tryz.prog W .any base t v := hval0
  have hW' := hW
  obtain ⟨p, q, hA0, hV, rfl, hfz, hnd⟩ := hW
  have hA : DataW.TrodAll enc Tryz.prog W 0 (fun _ => true) true Tryz.f5.params.toList args.toList ds p := hA0
  rw [Tryz.params5] at hA hval
  obtain ⟨v0, vs0, d0, ds0, p0, q0, hargs, rfl, rfl, h0, r0⟩ := trodAll_cons hA
  obtain ⟨v1, vs1, d1, ds1, p1, q1, rfl, rfl, rfl, h1, r1⟩ := trodAll_cons r0
  obtain ⟨rfl, rfl, rfl⟩ := trodAll_nil r1
  obtain rfl : args = #[v0, v1] := by cases args; simp_all
  obtain ⟨rfl, rfl⟩ := trodVars_none hV
  obtain ⟨a0, rfl, rfl, rfl, w0⟩ := open_int Tryz.underlying3 (hval 0 3 v0 rfl rfl) h0
  obtain ⟨a1, rfl, rfl, rfl⟩ := open_bool Tryz.underlying4 (hval 1 4 v1 rfl rfl) h1
  clear hA0 hval0
  refine (walk a0 a1 W w0 (⟨shorts_in hX (by kernel_rfl) (List.mem_of_getElem? (i := 1) rfl), maxL_shaped hsh⟩)).mono fun e W' ⟨he, bel⟩ => ?_
  subst he
  exact ⟨_, rfl, _, _, _, [], _, [], hW', trodAll_mk1 (shut_bool Tryz.underlying4 _), (trodAll_cons_mk (shut_int Tryz.underlying3 w0) (trodAll_cons_mk (shut_bool Tryz.underlying4 _) trodAll_mk0)), rfl, bel.frame _, fun h => by cases h⟩

theorem over : Rows.inlineKeysRow.holds Tryz.pinned (OpenSpec.ofChange Rows.inlineKeysSpec) :=
  OpenClaim.holds_of_wide 5 Tryz.f5 rfl rfl rfl rfl rfl rfl rfl ⟨rfl, rfl, rfl, rfl, rfl⟩ rfl rfl rfl rfl rfl (by kernel_rfl) Tryz.func5 (by kernel_rfl)
    (of_decide_eq_true (by kernel_rfl)) (by unfold Func.isWrapper; first | (rw [if_pos (by decide +kernel)]; kernel_rfl) | (rw [if_neg (by decide +kernel)]; exact ⟨rfl, rfl⟩))
    (fun os started H enc _ => lifted os started H enc)

theorem proved : Rows.InlineKeysCardSaid :=
  Claim7.holds_tied_plain_at .later [] [.data, .data, .pinned] true (true, "4c36b2f9cd6a1b99684a7d4c76e052a99f27488d72e5643796983d408aa86e83") false over (fun _ h => by cases h) (by kernel_rfl) (fun _ h => by cases h) inlineKeys_row_tie rfl ⟨rfl, rfl⟩ (by kernel_rfl) rfl
    (fun f fn hf hfn => by
      obtain rfl : f = 5 := Option.some.inj ((show Tryz.prog.funcNamed Rows.inlineKeysRow.func = some 5 by kernel_rfl).symm.trans hf) |>.symm
      obtain rfl : fn = Tryz.f5 := (Option.some.inj (Tryz.func5.symm.trans hfn)).symm
      exact ⟨by kernel_rfl, fun j t ht => by
        rw [Tryz.params5] at ht
        have hm : t ∈ [3, 4] := by simpa using Array.mem_of_getElem? ht
        have hall : ([3, 4].all fun u => !Tryz.prog.wantsStandIn u) = true := by kernel_rfl
        exact (show Tryz.prog.wantsStandIn t = false by simpa using List.all_eq_true.1 hall t hm)⟩)
    (by kernel_rfl)
#print axioms proved
end Go.Proofs.YtclgahmgoiobaaaGreatDoor.inlineKeys
