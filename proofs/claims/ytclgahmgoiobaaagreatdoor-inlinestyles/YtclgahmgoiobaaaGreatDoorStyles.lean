/-
  Proved: the card of the law 'scholium/scholiumlaw12.InlineStyles' (for every input it returns true, and every argument reads as it did before; the package variables that the row lists are tied to the program's text). No conditions.
-/
import Derived.Test.YtclgahmgoiobaaaGreatDoorRows
import Derived.Test.YtclgahmgoiobaaaGreatDoorCards
import Derived.Test.YtclgahmgoiobaaaGreatDoorTie
import Derived.Test.YtclgahmgoiobaaaGreatDoorMA
import Derived.Test.YtclgahmgoiobaaaGreatDoorMC
import Derived.Test.YtclgahmgoiobaaaGreatDoorMJ
import Derived.WalkKit
import Derived.ProofKit
import Derived.OpenShut
import Derived.ShutString
import Derived.ChangeOld
import Derived.Below
import Derived.LaidMore
import Derived.Lay
import Derived.SevenTiedAt
namespace Go.Proofs.YtclgahmgoiobaaaGreatDoor.inlineStyles
open Go.ChangeShapes Go.WideShapes Go.ChangeAt Go.RowKit
open Go.ChangeMaps (open_string shut_string)
set_option linter.unusedVariables false

theorem own : ownKnob Tryz.prog.godebug = none := by kernel_rfl
theorem laidOut : laidOutB Tryz.prog = true := by kernel_rfl

/-- A slice of integers that came in. -/
def IsRow (k : IntKind) (w : World) (a : Option Addr) (len cap : Nat) (zs : List Int) : Prop :=
  (a = none ∧ len = 0 ∧ cap = 0 ∧ zs = []) ∨
  ∃ x, a = some x ∧ len ≤ cap ∧ cap ≤ maxLen ∧ zs.length = cap ∧ (∀ i, i < zs.length → w.cell? (x.add i) = some (.int k (zs.getD i 0))) ∧ ∀ n ∈ zs, (Lit.int k n).wf = true

set_option linter.unusedSimpArgs false
set_option maxHeartbeats 4000000 in
set_option maxRecDepth 100000 in
theorem walk (a0 : ByteArray) (a1 : Int) (a2 : Bool) (w : World) (w0 : a0.size ≤ maxLen) (w1 : (Lit.int .i64 a1).wf = true) (hSM : Shorts w ∧ MaxL w) :
    Calls Tryz.prog 10 #[.string a0, .int .i64 a1, .bool a2] w fun e w' => e = .returned (.bool true) ∧ Below w.heap.size w w' := by
  have hb1 := bounds_i64 w1
  have HS := Lib.hid hSM.1
  have HM := Lib.hid hSM.2
  clear hSM w1
  go_enter Tryz.func10, Tryz.ntmps10
  go_wp2_with fail
  refine (text_any a0 60 _ (by omega) w0).mono ?_
  rintro e w' ⟨t, _, ht, rfl, rfl⟩
  clear w0
  go_wp2_with fail
  refine (within_nat a1 7 _ (by omega) (by omega) (by omega)).mono ?_
  rintro e w' ⟨k, hk, rfl, rfl⟩
  obtain ⟨d, hd, hdm⟩ := tag7_at k hk
  have hds : d.size ≤ 7 := (tag7_ok d hdm).2.2.2.2
  have hcd : (w.alloc (.cells (tag7.map Value.string).toArray 9)).cell? ⟨w.heap.size, k, none⟩ = some (.string d) := by
    rw [World.cell?_alloc_mark]; simp [hd]
  have hbw : Below w.heap.size w (w.alloc (.cells (tag7.map Value.string).toArray 9)) := (Below.refl _ _).alloc (Nat.le_refl _) _
  have HB0 := Lib.hid hbw
  simp only [tag7, List.map_cons, List.map_nil] at hcd HB0
  have d1 : (k : Int) < 7 := by omega
  obtain ⟨o, ho⟩ : ∃ o, bestF d t a2 = o := ⟨_, rfl⟩
  obtain ⟨c, hc⟩ : ∃ c, chooseF t a2 = c := ⟨_, rfl⟩
  have hcs : c.size ≤ 10 * t.size + 2 := by rw [← hc]; exact choose_size t a2
  have HO := Lib.hid ho
  have HC := Lib.hid hc
  have HD := Lib.hid hdm
  clear hd ho hc hdm hbw
  go_wp2_with fail
  refine (best_at HB0.out HS.out d t a2 (by omega) (by omega) o HO.out).mono ?_
  rintro e W1 ⟨rfl, hb⟩
  have HB1 := Lib.hid hb
  clear hb HB0 hcd
  cases o with
  | none =>
    simp only [Option.getD_none, Option.isSome_none]
    go_wp2_with (go_at_call 13; refine (wakes_at HB1.out HS.out HM.out).mono ?_; rintro e w9 ⟨rfl, hb9⟩)
    go_ret
    exact ⟨rfl, hb9⟩
  | some u =>
    have hBO := best_one HD.out (by omega) HO.out
    rw [HC.out] at hBO
    have hus : u.size ≤ 1000000 := by
      have h := HO.out
      unfold bestF at h
      split at h
      · unfold someF at h
        split at h
        · cases h
        · injection h with h; rw [← h, HC.out]; omega
      · split at h
        · injection h with h; rw [← h]; omega
        · cases hp : putA t with
          | none => rw [hp] at h; cases h
          | some p =>
            rw [hp] at h
            simp only [Option.map_some, Option.some.injEq] at h
            have := (putA_size hp).2
            rw [← h, ByteArray.size_append, ByteArray.size_append]
            have : (⟨#[32]⟩ : ByteArray).size = 1 := rfl
            omega
    have P1 := Lib.hid (parse_one HB1.out HS.out HM.out u hus a2 d t hBO.1)
    have P2 := Lib.hid (fun (W : World) (hb : Below w.heap.size w W) => parse_one hb HS.out HM.out c (by omega) a2 strT t hBO.2)
    clear hBO HO HD
    simp only [Option.getD_some, Option.isSome_some]
    go_wp2_with fail
    refine P1.out.mono ?_
    rintro e W2 ⟨g, cap, rfl, m1, m2, c0, c2, c3, c4, hb⟩
    have HB2 := Lib.hid hb
    clear hb P1 HB1
    have hi : (0 : Int) < 1 := by omega
    go_wp2_with fail
    refine (choose_at HB2.out HS.out t a2 (by omega) c HC.out).mono ?_
    rintro e W3 ⟨rfl, hb⟩
    have HB3 := Lib.hid hb
    clear hb HB2 c0 c2 c3 c4
    go_wp2_with fail
    refine (P2.out W3 HB3.out).mono ?_
    rintro e W4 ⟨g2, cap2, rfl, m3, m4, c0, c2, c3, c4, hb⟩
    have HB4 := Lib.hid hb
    clear hb HB3
    simp only [strT] at c2
    go_wp2_with fail
    refine (wakes_at HB4.out HS.out HM.out).mono ?_
    rintro e W5 ⟨rfl, hb⟩
    have HB5 := Lib.hid hb
    clear hb
    go_wp2_with fail
    go_ret
    exact ⟨rfl, HB5.out⟩


set_option maxRecDepth 100000 in
theorem lifted (os : Os) (started : os.Started) (H : Type) (enc : TypeId × Value → H) :
    ReturnsInHanded {} Tryz.checked os 10 .any (fun w args => (Rows.inlineStylesSpec.pre enc Tryz.prog Tryz.f10 Rows.inlineStylesRow.domain false w args ∧ laidMetH Tryz.prog Rows.inlineStylesRow.laid w) ∧ sizedMet enc Tryz.prog Tryz.f10 (OpenSpec.ofChange Rows.inlineStylesSpec) false w args)
      (Rows.inlineStylesSpec.post enc Tryz.prog Tryz.f10 false true false false) := by
  refine returns_listed (C := Tryz.checked) (X := fun w _ => laidMetH Tryz.prog Rows.inlineStylesRow.laid w) (fun _ _ _ hh h => h.of_heap hh) own started (by kernel_rfl) Tryz.func10
    (ChangeSpec.witness_shaped (enc := enc) (C := Tryz.checked) (os := os) (X := fun w _ => laidMetH Tryz.prog Rows.inlineStylesRow.laid w) false (World.laidAll Tryz.prog os Rows.inlineStylesRow.laid) #[.string ByteArray.empty, .int .i64 0, .bool false] 8 (World.laidAll_os _ _ _)
      (World.shaped_of_ZipB (by kernel_rfl) (by kernel_rfl)) (by kernel_rfl) (by kernel_rfl) (by kernel_rfl)
      (by rw [MakeChecks.laidMetH_plain _ _ _ (by kernel_rfl)]; exact laidMet_laidAll _ (by kernel_rfl) (by kernel_rfl))) ?_
  intro W base args ds gs before hval0 hW hX hsh
  have hval : ∀ (j : Nat) t v, Tryz.f10.params[j]? = some t → args[j]? = some v → Value.okWide Tryz.prog W .any base t v := hval0
  have hW' := hW
  obtain ⟨p, q, hA0, hV, rfl, hfz, hnd⟩ := hW
  have hA : DataW.TrodAll enc Tryz.prog W 0 (fun _ => true) true Tryz.f10.params.toList args.toList ds p := hA0
  rw [Tryz.params10] at hA hval
  obtain ⟨v0, vs0, d0, ds0, p0, q0, hargs, rfl, rfl, h0, r0⟩ := trodAll_cons hA
  obtain ⟨v1, vs1, d1, ds1, p1, q1, rfl, rfl, rfl, h1, r1⟩ := trodAll_cons r0
  obtain ⟨v2, vs2, d2, ds2, p2, q2, rfl, rfl, rfl, h2, r2⟩ := trodAll_cons r1
  obtain ⟨rfl, rfl, rfl⟩ := trodAll_nil r2
  obtain rfl : args = #[v0, v1, v2] := by cases args; simp_all
  obtain ⟨rfl, rfl⟩ := trodVars_none hV
  obtain ⟨a0, rfl, rfl, rfl, w0⟩ := open_string Tryz.underlying9 (hval 0 9 v0 rfl rfl) h0
  obtain ⟨a1, rfl, rfl, rfl, w1⟩ := open_int Tryz.underlying3 (hval 1 3 v1 rfl rfl) h1
  obtain ⟨a2, rfl, rfl, rfl⟩ := open_bool Tryz.underlying4 (hval 2 4 v2 rfl rfl) h2
  clear hA0 hval0
  refine (walk a0 a1 a2 W w0 w1 (⟨shorts_in hX (by kernel_rfl) (List.mem_of_getElem? (i := 1) rfl), maxL_shaped hsh⟩)).mono fun e W' ⟨he, bel⟩ => ?_
  subst he
  exact ⟨_, rfl, _, _, _, [], _, [], hW', trodAll_mk1 (shut_bool Tryz.underlying4 _), (trodAll_cons_mk (shut_string Tryz.underlying9 w0) (trodAll_cons_mk (shut_int Tryz.underlying3 w1) (trodAll_cons_mk (shut_bool Tryz.underlying4 _) trodAll_mk0))), rfl, bel.frame _, fun h => by cases h⟩

theorem over : Rows.inlineStylesRow.holds Tryz.pinned (OpenSpec.ofChange Rows.inlineStylesSpec) :=
  OpenClaim.holds_of_wide 10 Tryz.f10 rfl rfl rfl rfl rfl rfl rfl ⟨rfl, rfl, rfl, rfl, rfl⟩ rfl rfl rfl rfl rfl (by kernel_rfl) Tryz.func10 (by kernel_rfl)
    (of_decide_eq_true (by kernel_rfl)) (by unfold Func.isWrapper; first | (rw [if_pos (by decide +kernel)]; kernel_rfl) | (rw [if_neg (by decide +kernel)]; exact ⟨rfl, rfl⟩))
    (fun os started H enc _ => lifted os started H enc)

theorem proved : Rows.InlineStylesCardSaid :=
  Claim7.holds_tied_plain_at .later [] [.data, .data, .pinned] true (true, "4c36b2f9cd6a1b99684a7d4c76e052a99f27488d72e5643796983d408aa86e83") false over (fun _ h => by cases h) (by kernel_rfl) (fun _ h => by cases h) inlineStyles_row_tie rfl ⟨rfl, rfl⟩ (by kernel_rfl) rfl
    (fun f fn hf hfn => by
      obtain rfl : f = 10 := Option.some.inj ((show Tryz.prog.funcNamed Rows.inlineStylesRow.func = some 10 by kernel_rfl).symm.trans hf) |>.symm
      obtain rfl : fn = Tryz.f10 := (Option.some.inj (Tryz.func10.symm.trans hfn)).symm
      exact ⟨by kernel_rfl, fun j t ht => by
        rw [Tryz.params10] at ht
        have hm : t ∈ [9, 3, 4] := by simpa using Array.mem_of_getElem? ht
        have hall : ([9, 3, 4].all fun u => !Tryz.prog.wantsStandIn u) = true := by kernel_rfl
        exact (show Tryz.prog.wantsStandIn t = false by simpa using List.all_eq_true.1 hall t hm)⟩)
    (by kernel_rfl)
#print axioms proved
end Go.Proofs.YtclgahmgoiobaaaGreatDoor.inlineStyles
