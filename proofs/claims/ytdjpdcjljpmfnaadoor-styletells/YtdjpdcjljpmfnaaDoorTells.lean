/-
  Proved: the card of the law 'scholium/scholiumlaw09.StyleTells' (for every input it returns true, and every argument reads as it did before; the package variables that the row lists are tied to the program's text). No conditions.
-/
import Derived.Test.YtdjpdcjljpmfnaaDoorRows
import Derived.Test.YtdjpdcjljpmfnaaDoorCards
import Derived.Test.YtdjpdcjljpmfnaaDoorTie
import Derived.Test.YtdjpdcjljpmfnaaDoorDoor
import Derived.Test.YtdjpdcjljpmfnaaDoorDbDoor
import Derived.Test.YtdjpdcjljpmfnaaDoorStRef
import Derived.Test.YtdjpdcjljpmfnaaDoorKeep
import Derived.WalkKit
import Derived.ProofKit
import Derived.OpenShut
import Derived.ShutString
import Derived.ChangeOld
import Derived.Below
import Derived.LaidMore
import Derived.Lay
import Derived.SevenTiedAt
namespace Go.Proofs.YtdjpdcjljpmfnaaDoor.styleTells
open Go.ChangeShapes Go.WideShapes Go.ChangeAt Go.RowKit
open Go.ChangeMaps (open_string shut_string)
set_option linter.unusedVariables false

theorem own : ownKnob Tryd.prog.godebug = none := by kernel_rfl
theorem laidOut : laidOutB Tryd.prog = true := by kernel_rfl

/-- A slice of integers that came in. -/
def IsRow (k : IntKind) (w : World) (a : Option Addr) (len cap : Nat) (zs : List Int) : Prop :=
  (a = none ∧ len = 0 ∧ cap = 0 ∧ zs = []) ∨
  ∃ x, a = some x ∧ len ≤ cap ∧ cap ≤ maxLen ∧ zs.length = cap ∧ (∀ i, i < zs.length → w.cell? (x.add i) = some (.int k (zs.getD i 0))) ∧ ∀ n ∈ zs, (Lit.int k n).wf = true

def tagL : List ByteArray := [⟨#[33, 33, 115, 116, 114]⟩, ⟨#[33, 33, 105, 110, 116]⟩, ⟨#[33, 33, 102, 108, 111, 97, 116]⟩, ⟨#[33, 33, 98, 111, 111, 108]⟩, ⟨#[33, 33, 110, 117, 108, 108]⟩, ⟨#[33, 120]⟩]
theorem tagL_at : ∀ k : Nat, k < 6 → ∃ d : ByteArray, tagL[k]? = some d ∧ d.size ≤ 20 := by
  intro k hk
  rcases k with _ | _ | _ | _ | _ | _ | k
  all_goals first
    | exact ⟨_, rfl, by decide⟩
    | omega
set_option maxHeartbeats 4000000 in
set_option maxRecDepth 100000 in
theorem walk (a0 : ByteArray) (a1 : ByteArray) (a2 : Int) (a3 : Bool) (w : World) (w0 : a0.size ≤ maxLen) (w1 : a1.size ≤ maxLen) (w2 : (Lit.int .i64 a2).wf = true) (hS : Shorts w) :
    Calls Tryd.prog 4 #[.string a0, .string a1, .int .i64 a2, .bool a3] w fun e w' => e = .returned (.bool true) ∧ Below w.heap.size w w' := by
  have hb3 := bounds_i64 w2
  have HS := Lib.hid hS
  clear hS w2
  go_enter Tryd.func4, Tryd.ntmps4
  go_wp2_with fail
  refine (text_any a0 150 _ (by omega) w0).mono ?_
  rintro e w' ⟨t, _, ht, rfl, rfl⟩
  clear w0
  go_wp2_with fail
  refine (text_any a1 20 _ (by omega) w1).mono ?_
  rintro e w' ⟨tg, _, htg, rfl, rfl⟩
  clear w1
  go_wp2_with fail
  refine (within_nat a2 7 w (by omega) (by omega) (by omega)).mono ?_
  rintro e w' ⟨k, hk, rfl, rfl⟩
  go_upto_if 25 with fail
  go_cut [1] (fun s W => ∃ u : ByteArray, s = .string u ∧ u.size ≤ 20 ∧ Below w.heap.size w W)
  case first =>
    by_cases hk6 : k < 6
    · obtain ⟨d, hd, hds⟩ := tagL_at k hk6
      have hcd : (w.alloc (.cells (tagL.map Value.string).toArray 9)).cell? ⟨w.heap.size, k, none⟩ = some (.string d) := by
        rw [World.cell?_alloc_mark]; simp [hd]
      simp only [tagL, List.map_cons, List.map_nil] at hcd
      have d1 : (k : Int) < 6 := by omega
      clear hd HS
      go_wp2_with fail
      go_meet
      exact ⟨_, rfl, hds, (Below.refl _ _).alloc (Nat.le_refl _) _⟩
    · have d1 : decide ((k : Int) < 6) = false := decide_eq_false (by omega)
      clear HS
      go_wp2_with fail
      go_meet
      exact ⟨_, rfl, htg, Below.refl _ _⟩
  case rest =>
    obtain ⟨u, rfl, hus, hb0⟩ := hcut
    have HB0 := Lib.hid hb0
    obtain ⟨c, hc⟩ : ∃ c, chooseF t a3 = c := ⟨_, rfl⟩
    obtain ⟨o, ho⟩ : ∃ o, keyOf c = o := ⟨_, rfl⟩
    obtain ⟨q, hq⟩ : ∃ q, bestF u t a3 = q := ⟨_, rfl⟩
    have HC := Lib.hid hc
    have HO := Lib.hid ho
    have HQ := Lib.hid hq
    clear hb0 hc ho hq
    go_wp2_with fail
    refine (key_at HB0.out HS.out t a3 (by omega) c HC.out o HO.out).mono ?_
    rintro e W1 ⟨rfl, hb⟩
    have HB1 := Lib.hid hb
    clear hb
    go_wp2_with fail
    refine (rkey_at HB1.out t a3 (by omega) c HC.out o HO.out).mono ?_
    rintro e W2 ⟨rfl, hb⟩
    have HB2 := Lib.hid hb
    clear hb
    generalize o.getD ⟨#[]⟩ = kk at *
    generalize o.isSome = kb at *
    go_wp2_with fail
    refine (best_at HB2.out HS.out u t a3 (by omega) (by omega) q HQ.out).mono ?_
    rintro e W3 ⟨rfl, hb⟩
    have HB3 := Lib.hid hb
    clear hb
    go_wp2_with fail
    refine (rbest_at HB3.out u t a3 (by omega) (by omega) q HQ.out).mono ?_
    rintro e W4 ⟨rfl, hb⟩
    have HB4 := Lib.hid hb
    clear hb
    generalize q.getD ⟨#[]⟩ = qq at *
    generalize q.isSome = qb at *
    go_wp2_with fail
    refine (choose_at HB4.out HS.out t a3 (by omega) c HC.out).mono ?_
    rintro e W5 ⟨rfl, hb⟩
    have HB5 := Lib.hid hb
    clear hb
    go_wp2_with fail
    refine (rchoose_at HB5.out t a3 (by omega) c HC.out).mono ?_
    rintro e W6 ⟨rfl, hb⟩
    have HB6 := Lib.hid hb
    clear hb
    go_wp2_with fail
    refine (wakes_at HB6.out HS.out).mono ?_
    rintro e W7 ⟨rfl, hb⟩
    have HB7 := Lib.hid hb
    clear hb
    go_wp2_with fail
    go_ret
    exact ⟨rfl, HB7.out⟩


set_option maxRecDepth 100000 in
theorem lifted (os : Os) (started : os.Started) (H : Type) (enc : TypeId × Value → H) :
    ReturnsInHanded {} Tryd.checked os 4 .any (fun w args => (Rows.styleTellsSpec.pre enc Tryd.prog Tryd.f4 Rows.styleTellsRow.domain false w args ∧ laidMetH Tryd.prog Rows.styleTellsRow.laid w) ∧ sizedMet enc Tryd.prog Tryd.f4 (OpenSpec.ofChange Rows.styleTellsSpec) false w args)
      (Rows.styleTellsSpec.post enc Tryd.prog Tryd.f4 false true false false) := by
  refine returns_listed (C := Tryd.checked) (X := fun w _ => laidMetH Tryd.prog Rows.styleTellsRow.laid w) (fun _ _ _ hh h => h.of_heap hh) own started (by kernel_rfl) Tryd.func4
    (ChangeSpec.witness_shaped (enc := enc) (C := Tryd.checked) (os := os) (X := fun w _ => laidMetH Tryd.prog Rows.styleTellsRow.laid w) false (World.laidAll Tryd.prog os Rows.styleTellsRow.laid) #[.string ByteArray.empty, .string ByteArray.empty, .int .i64 0, .bool false] 8 (World.laidAll_os _ _ _)
      (World.shaped_of_ZipB (by kernel_rfl) (by kernel_rfl)) (by kernel_rfl) (by kernel_rfl) (by kernel_rfl)
      (by rw [MakeChecks.laidMetH_plain _ _ _ (by kernel_rfl)]; exact laidMet_laidAll _ (by kernel_rfl) (by kernel_rfl))) ?_
  intro W base args ds gs before hval0 hW hX hsh
  have hval : ∀ (j : Nat) t v, Tryd.f4.params[j]? = some t → args[j]? = some v → Value.okWide Tryd.prog W .any base t v := hval0
  have hW' := hW
  obtain ⟨p, q, hA0, hV, rfl, hfz, hnd⟩ := hW
  have hA : DataW.TrodAll enc Tryd.prog W 0 (fun _ => true) true Tryd.f4.params.toList args.toList ds p := hA0
  rw [Tryd.params4] at hA hval
  obtain ⟨v0, vs0, d0, ds0, p0, q0, hargs, rfl, rfl, h0, r0⟩ := trodAll_cons hA
  obtain ⟨v1, vs1, d1, ds1, p1, q1, rfl, rfl, rfl, h1, r1⟩ := trodAll_cons r0
  obtain ⟨v2, vs2, d2, ds2, p2, q2, rfl, rfl, rfl, h2, r2⟩ := trodAll_cons r1
  obtain ⟨v3, vs3, d3, ds3, p3, q3, rfl, rfl, rfl, h3, r3⟩ := trodAll_cons r2
  obtain ⟨rfl, rfl, rfl⟩ := trodAll_nil r3
  obtain rfl : args = #[v0, v1, v2, v3] := by cases args; simp_all
  obtain ⟨rfl, rfl⟩ := trodVars_none hV
  obtain ⟨a0, rfl, rfl, rfl, w0⟩ := open_string Tryd.underlying9 (hval 0 9 v0 rfl rfl) h0
  obtain ⟨a1, rfl, rfl, rfl, w1⟩ := open_string Tryd.underlying9 (hval 1 9 v1 rfl rfl) h1
  obtain ⟨a2, rfl, rfl, rfl, w2⟩ := open_int Tryd.underlying3 (hval 2 3 v2 rfl rfl) h2
  obtain ⟨a3, rfl, rfl, rfl⟩ := open_bool Tryd.underlying4 (hval 3 4 v3 rfl rfl) h3
  clear hA0 hval0
  refine (walk a0 a1 a2 a3 W w0 w1 w2 (shorts_in hX (by kernel_rfl) (List.mem_of_getElem? (i := 1) rfl))).mono fun e W' ⟨he, bel⟩ => ?_
  subst he
  exact ⟨_, rfl, _, _, _, [], _, [], hW', trodAll_mk1 (shut_bool Tryd.underlying4 _), (trodAll_cons_mk (shut_string Tryd.underlying9 w0) (trodAll_cons_mk (shut_string Tryd.underlying9 w1) (trodAll_cons_mk (shut_int Tryd.underlying3 w2) (trodAll_cons_mk (shut_bool Tryd.underlying4 _) trodAll_mk0)))), rfl, bel.frame _, fun h => by cases h⟩

theorem over : Rows.styleTellsRow.holds Tryd.pinned (OpenSpec.ofChange Rows.styleTellsSpec) :=
  OpenClaim.holds_of_wide 4 Tryd.f4 rfl rfl rfl rfl rfl rfl rfl ⟨rfl, rfl, rfl, rfl, rfl⟩ rfl rfl rfl rfl rfl (by kernel_rfl) Tryd.func4 (by kernel_rfl)
    (of_decide_eq_true (by kernel_rfl)) (by unfold Func.isWrapper; first | (rw [if_pos (by decide +kernel)]; kernel_rfl) | (rw [if_neg (by decide +kernel)]; exact ⟨rfl, rfl⟩))
    (fun os started H enc _ => lifted os started H enc)

theorem proved : Rows.StyleTellsCardSaid :=
  Claim7.holds_tied_plain_at .later [] [.data, .data, .pinned] true (true, "8985d1c63413ed726e3e50b5feea4ab5e2db93c40bc21c1980bccf415171d9a9") false over (fun _ h => by cases h) (by kernel_rfl) (fun _ h => by cases h) styleTells_row_tie rfl ⟨rfl, rfl⟩ (by kernel_rfl) rfl
    (fun f fn hf hfn => by
      obtain rfl : f = 4 := Option.some.inj ((show Tryd.prog.funcNamed Rows.styleTellsRow.func = some 4 by kernel_rfl).symm.trans hf) |>.symm
      obtain rfl : fn = Tryd.f4 := (Option.some.inj (Tryd.func4.symm.trans hfn)).symm
      exact ⟨by kernel_rfl, fun j t ht => by
        rw [Tryd.params4] at ht
        have hm : t ∈ [9, 9, 3, 4] := by simpa using Array.mem_of_getElem? ht
        have hall : ([9, 9, 3, 4].all fun u => !Tryd.prog.wantsStandIn u) = true := by kernel_rfl
        exact (show Tryd.prog.wantsStandIn t = false by simpa using List.all_eq_true.1 hall t hm)⟩)
    (by kernel_rfl)
#print axioms proved
end Go.Proofs.YtdjpdcjljpmfnaaDoor.styleTells
