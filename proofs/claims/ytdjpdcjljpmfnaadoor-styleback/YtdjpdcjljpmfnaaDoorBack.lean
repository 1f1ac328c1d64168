/-
  Proved: the card of the law 'scholium/scholiumlaw09.StyleBack' (for every input it returns true, and every argument reads as it did before; the package variables that the row lists are tied to the program's text). No conditions.
-/
import Derived.Test.YtdjpdcjljpmfnaaDoorRows
import Derived.Test.YtdjpdcjljpmfnaaDoorCards
import Derived.Test.YtdjpdcjljpmfnaaDoorTie
import Derived.Test.YtdjpdcjljpmfnaaDoorDoor
import Derived.Test.YtdjpdcjljpmfnaaDoorDbDoor
import Derived.Test.YtdjpdcjljpmfnaaDoorStRef
import Derived.Test.YtdjpdcjljpmfnaaDoorKeep
import Derived.WalkKit
import Derived.ProofKit
import Derived.OpenShut
import Derived.ShutString
import Derived.ChangeOld
import Derived.Below
import Derived.LaidMore
import Derived.Lay
import Derived.SevenTiedAt
namespace Go.Proofs.YtdjpdcjljpmfnaaDoor.styleBack
open Go.ChangeShapes Go.WideShapes Go.ChangeAt Go.RowKit
open Go.ChangeMaps (open_string shut_string)
set_option linter.unusedVariables false

theorem own : ownKnob Tryd.prog.godebug = none := by kernel_rfl
theorem laidOut : laidOutB Tryd.prog = true := by kernel_rfl

/-- A slice of integers that came in. -/
def IsRow (k : IntKind) (w : World) (a : Option Addr) (len cap : Nat) (zs : List Int) : Prop :=
  (a = none ∧ len = 0 ∧ cap = 0 ∧ zs = []) ∨
  ∃ x, a = some x ∧ len ≤ cap ∧ cap ≤ maxLen ∧ zs.length = cap ∧ (∀ i, i < zs.length → w.cell? (x.add i) = some (.int k (zs.getD i 0))) ∧ ∀ n ∈ zs, (Lit.int k n).wf = true

set_option maxHeartbeats 4000000 in
set_option maxRecDepth 100000 in
theorem walk (a0 : ByteArray) (a1 : Bool) (w : World) (w0 : a0.size ≤ maxLen) (hS : Shorts w) :
    Calls Tryd.prog 5 #[.string a0, .bool a1] w fun e w' => e = .returned (.bool true) ∧ Below w.heap.size w w' := by
  have HS := Lib.hid hS
  have HB0 := Lib.hid (Below.refl w.heap.size w)
  clear hS
  go_enter Tryd.func5, Tryd.ntmps5
  go_wp2_with fail
  refine (text_any a0 80 _ (by omega) w0).mono ?_
  rintro e w' ⟨t, _, ht, rfl, rfl⟩
  clear w0
  obtain ⟨c, hc⟩ : ∃ c, chooseF t a1 = c := ⟨_, rfl⟩
  have hcs : c.size ≤ 1000 := by have := choose_size t a1; rw [hc] at this; omega
  have HC := Lib.hid hc
  by_cases h0 : c.size = 0
  · have HP := Lib.hid (choose_nil (s := t) (fl := a1) (by rw [hc]; exact h0)).2
    obtain ⟨e1, e2⟩ := str_nil c h0
    have E2 := Lib.hid e2
    clear hc h0 e2
    go_wp2_with fail
    refine (choose_at HB0.out HS.out t a1 (by omega) c HC.out).mono ?_
    rintro e W1 ⟨rfl, hb⟩
    have HB1 := Lib.hid hb
    clear hb
    go_wp2_with fail
    refine (puts_at HB1.out HS.out t (by omega) _ HP.out).mono ?_
    rintro e W2 ⟨rfl, hb⟩
    have HB2 := Lib.hid hb
    clear hb
    simp only [Option.getD_none, Option.isSome_none]
    go_wp2_with fail
    refine (wakes_at HB2.out HS.out).mono ?_
    rintro e W3 ⟨rfl, hb⟩
    have HB3 := Lib.hid hb
    clear hb
    go_wp2_with fail
    go_ret
    exact ⟨rfl, HB3.out⟩
  · obtain ⟨e1, e2⟩ := str_none c (by omega)
    by_cases hct : t = c
    · subst hct
      have hr := choose_self (s := t) (fl := a1) (by rw [hc]; exact h0) hc
      obtain ⟨v, r, b, hva, hre, hbb, hvb⟩ := read_ways hr
      rw [str_list] at hbb
      obtain ⟨rfl, rfl⟩ : v = true ∧ b = true := by simpa using hvb
      have HVA := Lib.hid hva
      have HRE := Lib.hid hre
      clear hc h0 hr hva hre hvb
      go_wp2_with fail
      refine (choose_at HB0.out HS.out t a1 (by omega) t HC.out).mono ?_
      rintro e W1 ⟨rfl, hb⟩
      have HB1 := Lib.hid hb
      clear hb
      go_wp2_with fail
      refine (valid_txt HB1.out (by omega) a1 _ rfl _ HVA.out).mono ?_
      rintro e W2 ⟨rfl, hb⟩
      have HB2 := Lib.hid hb
      clear hb
      go_wp2_with fail
      refine (res_at HB2.out t (by omega) r HRE.out).mono ?_
      rintro e W3 ⟨rfl, hb⟩
      have HB3 := Lib.hid hb
      clear hb
      go_wp2_with fail
      refine (wakes_at HB3.out HS.out).mono ?_
      rintro e W4 ⟨rfl, hb⟩
      have HB4 := Lib.hid hb
      clear hb
      go_wp2_with fail
      go_ret
      exact ⟨rfl, HB4.out⟩
    · have hne : (c.toList == t.toList) = false := beq_eq_false_iff_ne.2 (fun h => hct (list_inj h).symm)
      have hne2 : ¬ c.toList = t.toList := fun h => hct (list_inj h).symm
      obtain ⟨hr, htk⟩ := choose_take (s := t) (fl := a1) (by rw [hc]; exact h0) (by rw [hc]; exact fun h => hct h.symm)
      rw [hc] at htk
      have HTK := Lib.hid htk
      obtain ⟨v, r, b, hva, hre, hbb, hvb⟩ := read_ways hr
      rw [str_list] at hbb
      have HVA := Lib.hid hva
      have HRE := Lib.hid hre
      clear hc h0 hr hva hre htk hct
      go_wp2_with fail
      refine (choose_at HB0.out HS.out t a1 (by omega) c HC.out).mono ?_
      rintro e W1 ⟨rfl, hb⟩
      have HB1 := Lib.hid hb
      clear hb
      obtain ⟨cap, W2, hby⟩ := bytes_of c (by omega) W1
      have HBY := Lib.hid hby
      have hrun := hby.run
      clear hby
      go_wp2_with fail
      clear hrun
      refine (take_txt HBY.out HB1.out HS.out (by omega) _ rfl _ HTK.out).mono ?_
      rintro e W3 ⟨x, hx, rfl, hb⟩
      obtain rfl : t = x := (byt_inj hx).symm
      have HB3 := Lib.hid hb
      clear hb hx
      simp only [tkN, Option.isSome_some]
      cases v
      · clear hvb hbb HRE
        go_wp2_with fail
        refine (valid_txt HB3.out (by omega) a1 _ rfl _ HVA.out).mono ?_
        rintro e W4 ⟨rfl, hb⟩
        have HB4 := Lib.hid hb
        clear hb
        go_wp2_with fail
        refine (wakes_at HB4.out HS.out).mono ?_
        rintro e W5 ⟨rfl, hb⟩
        have HB5 := Lib.hid hb
        clear hb
        go_wp2_with fail
        go_ret
        exact ⟨rfl, HB5.out⟩
      · obtain rfl : b = false := hvb
        go_wp2_with fail
        refine (valid_txt HB3.out (by omega) a1 _ rfl _ HVA.out).mono ?_
        rintro e W4 ⟨rfl, hb⟩
        have HB4 := Lib.hid hb
        clear hb
        go_wp2_with fail
        refine (res_at HB4.out t (by omega) r HRE.out).mono ?_
        rintro e W6 ⟨rfl, hb⟩
        have HB6 := Lib.hid hb
        clear hb
        go_wp2_with fail
        refine (wakes_at HB6.out HS.out).mono ?_
        rintro e W5 ⟨rfl, hb⟩
        have HB5 := Lib.hid hb
        clear hb
        go_wp2_with fail
        go_ret
        exact ⟨rfl, HB5.out⟩


set_option maxRecDepth 100000 in
theorem lifted (os : Os) (started : os.Started) (H : Type) (enc : TypeId × Value → H) :
    ReturnsInHanded {} Tryd.checked os 5 .any (fun w args => (Rows.styleBackSpec.pre enc Tryd.prog Tryd.f5 Rows.styleBackRow.domain false w args ∧ laidMetH Tryd.prog Rows.styleBackRow.laid w) ∧ sizedMet enc Tryd.prog Tryd.f5 (OpenSpec.ofChange Rows.styleBackSpec) false w args)
      (Rows.styleBackSpec.post enc Tryd.prog Tryd.f5 false true false false) := by
  refine returns_listed (C := Tryd.checked) (X := fun w _ => laidMetH Tryd.prog Rows.styleBackRow.laid w) (fun _ _ _ hh h => h.of_heap hh) own started (by kernel_rfl) Tryd.func5
    (ChangeSpec.witness_shaped (enc := enc) (C := Tryd.checked) (os := os) (X := fun w _ => laidMetH Tryd.prog Rows.styleBackRow.laid w) false (World.laidAll Tryd.prog os Rows.styleBackRow.laid) #[.string ByteArray.empty, .bool false] 8 (World.laidAll_os _ _ _)
      (World.shaped_of_ZipB (by kernel_rfl) (by kernel_rfl)) (by kernel_rfl) (by kernel_rfl) (by kernel_rfl)
      (by rw [MakeChecks.laidMetH_plain _ _ _ (by kernel_rfl)]; exact laidMet_laidAll _ (by kernel_rfl) (by kernel_rfl))) ?_
  intro W base args ds gs before hval0 hW hX hsh
  have hval : ∀ (j : Nat) t v, Tryd.f5.params[j]? = some t → args[j]? = some v → Value.okWide Tryd.prog W .any base t v := hval0
  have hW' := hW
  obtain ⟨p, q, hA0, hV, rfl, hfz, hnd⟩ := hW
  have hA : DataW.TrodAll enc Tryd.prog W 0 (fun _ => true) true Tryd.f5.params.toList args.toList ds p := hA0
  rw [Tryd.params5] at hA hval
  obtain ⟨v0, vs0, d0, ds0, p0, q0, hargs, rfl, rfl, h0, r0⟩ := trodAll_cons hA
  obtain ⟨v1, vs1, d1, ds1, p1, q1, rfl, rfl, rfl, h1, r1⟩ := trodAll_cons r0
  obtain ⟨rfl, rfl, rfl⟩ := trodAll_nil r1
  obtain rfl : args = #[v0, v1] := by cases args; simp_all
  obtain ⟨rfl, rfl⟩ := trodVars_none hV
  obtain ⟨a0, rfl, rfl, rfl, w0⟩ := open_string Tryd.underlying9 (hval 0 9 v0 rfl rfl) h0
  obtain ⟨a1, rfl, rfl, rfl⟩ := open_bool Tryd.underlying4 (hval 1 4 v1 rfl rfl) h1
  clear hA0 hval0
  refine (walk a0 a1 W w0 (shorts_in hX (by kernel_rfl) (List.mem_of_getElem? (i := 1) rfl))).mono fun e W' ⟨he, bel⟩ => ?_
  subst he
  exact ⟨_, rfl, _, _, _, [], _, [], hW', trodAll_mk1 (shut_bool Tryd.underlying4 _), (trodAll_cons_mk (shut_string Tryd.underlying9 w0) (trodAll_cons_mk (shut_bool Tryd.underlying4 _) trodAll_mk0)), rfl, bel.frame _, fun h => by cases h⟩

theorem over : Rows.styleBackRow.holds Tryd.pinned (OpenSpec.ofChange Rows.styleBackSpec) :=
  OpenClaim.holds_of_wide 5 Tryd.f5 rfl rfl rfl rfl rfl rfl rfl ⟨rfl, rfl, rfl, rfl, rfl⟩ rfl rfl rfl rfl rfl (by kernel_rfl) Tryd.func5 (by kernel_rfl)
    (of_decide_eq_true (by kernel_rfl)) (by unfold Func.isWrapper; first | (rw [if_pos (by decide +kernel)]; kernel_rfl) | (rw [if_neg (by decide +kernel)]; exact ⟨rfl, rfl⟩))
    (fun os started H enc _ => lifted os started H enc)

theorem proved : Rows.StyleBackCardSaid :=
  Claim7.holds_tied_plain_at .later [] [.data, .data, .pinned] true (true, "8985d1c63413ed726e3e50b5feea4ab5e2db93c40bc21c1980bccf415171d9a9") false over (fun _ h => by cases h) (by kernel_rfl) (fun _ h => by cases h) styleBack_row_tie rfl ⟨rfl, rfl⟩ (by kernel_rfl) rfl
    (fun f fn hf hfn => by
      obtain rfl : f = 5 := Option.some.inj ((show Tryd.prog.funcNamed Rows.styleBackRow.func = some 5 by kernel_rfl).symm.trans hf) |>.symm
      obtain rfl : fn = Tryd.f5 := (Option.some.inj (Tryd.func5.symm.trans hfn)).symm
      exact ⟨by kernel_rfl, fun j t ht => by
        rw [Tryd.params5] at ht
        have hm : t ∈ [9, 4] := by simpa using Array.mem_of_getElem? ht
        have hall : ([9, 4].all fun u => !Tryd.prog.wantsStandIn u) = true := by kernel_rfl
        exact (show Tryd.prog.wantsStandIn t = false by simpa using List.all_eq_true.1 hall t hm)⟩)
    (by kernel_rfl)
#print axioms proved
end Go.Proofs.YtdjpdcjljpmfnaaDoor.styleBack
