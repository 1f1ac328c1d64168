/-
  Proved: the card of the law 'scholium/scholiumlaw06.DoubleApart' (for every input it returns true, and every argument reads as it did before; the package variables that the row lists are tied to the program's text). No conditions.
-/
import Derived.Test.YtgiloooandiokaaDoorRows
import Derived.Test.YtgiloooandiokaaDoorCards
import Derived.Test.YtgiloooandiokaaDoorTie
import Derived.Test.YtgiloooandiokaaDoorDoor
import Derived.Test.YtgiloooandiokaaDoorDbDoor
import Derived.Test.YtgiloooandiokaaDoorDbLaw
import Derived.Test.YtgiloooandiokaaDoorDbFacts
import Derived.Test.YtgiloooandiokaaDoorKeep
import Derived.WalkKit
import Derived.ProofKit
import Derived.OpenShut
import Derived.ShutString
import Derived.ChangeOld
import Derived.Below
import Derived.LaidMore
import Derived.Lay
import Derived.SevenTiedAt
namespace Go.Proofs.YtgiloooandiokaaDoor.doubleApart
open Go.ChangeShapes Go.WideShapes Go.ChangeAt Go.RowKit
open Go.ChangeMaps (open_string shut_string)
set_option linter.unusedVariables false

theorem own : ownKnob Tryd.prog.godebug = none := by kernel_rfl
theorem laidOut : laidOutB Tryd.prog = true := by kernel_rfl

/-- A slice of integers that came in. -/
def IsRow (k : IntKind) (w : World) (a : Option Addr) (len cap : Nat) (zs : List Int) : Prop :=
  (a = none ∧ len = 0 ∧ cap = 0 ∧ zs = []) ∨
  ∃ x, a = some x ∧ len ≤ cap ∧ cap ≤ maxLen ∧ zs.length = cap ∧ (∀ i, i < zs.length → w.cell? (x.add i) = some (.int k (zs.getD i 0))) ∧ ∀ n ∈ zs, (Lit.int k n).wf = true

set_option maxHeartbeats 4000000 in
set_option maxRecDepth 100000 in
theorem walk (a0 : ByteArray) (a1 : ByteArray) (w : World) (w0 : a0.size ≤ maxLen) (w1 : a1.size ≤ maxLen) (hS : Shorts w) :
    Calls Tryd.prog 9 #[.string a0, .string a1] w fun e w' => e = .returned (.bool true) ∧ Below w.heap.size w w' := by
  have HS := Lib.hid hS
  have HB0 : Hid (Below w.heap.size w w) := Below.refl _ _
  clear hS
  go_enter Tryd.func9, Tryd.ntmps9
  go_wp2_with fail
  refine (text_any a0 40 _ (by omega) w0).mono ?_
  rintro e w' ⟨s, _, hs, rfl, rfl⟩
  clear w0
  go_wp2_with fail
  refine (text_any a1 40 _ (by omega) w1).mono ?_
  rintro e w' ⟨t, _, ht, rfl, rfl⟩
  clear w1
  obtain ⟨o1, ho1⟩ : ∃ o, putD (byt s) = o := ⟨_, rfl⟩
  obtain ⟨o2, ho2⟩ : ∃ o, putD (byt t) = o := ⟨_, rfl⟩
  have HO1 := Lib.hid ho1
  have HO2 := Lib.hid ho2
  clear ho1 ho2
  go_wp2_with fail
  refine (put_txt HB0.out HS.out (by omega) o1 HO1.out).mono ?_
  rintro e W1 ⟨p, hp, rfl, hb1⟩
  have HB1 := Lib.hid hb1
  have HP := Lib.hid hp
  clear hb1 hp
  go_wp2_with fail
  refine (put_txt HB1.out HS.out (by omega) o2 HO2.out).mono ?_
  rintro e W2 ⟨q, hq, rfl, hb2⟩
  have HB2 := Lib.hid hb2
  have HQ := Lib.hid hq
  clear hb2 hq
  cases o1 with
  | none =>
    clear HP HQ HO1 HO2
    generalize o2.isSome = is at *
    go_wp2_with fail
    refine (wakes_at HB2.out HS.out).mono ?_
    rintro e W4 ⟨rfl, hb4⟩
    have HB4 := Lib.hid hb4
    clear hb4
    go_wp2_with fail
    go_ret
    exact ⟨rfl, HB4.out⟩
  | some y1 =>
    cases o2 with
    | none =>
      clear HP HQ HO1 HO2
      go_wp2_with fail
      refine (wakes_at HB2.out HS.out).mono ?_
      rintro e W4 ⟨rfl, hb4⟩
      have HB4 := Lib.hid hb4
      clear hb4
      go_wp2_with fail
      go_ret
      exact ⟨rfl, HB4.out⟩
    | some y2 =>
      have hp : byt p = y1 := HP.out
      have hq : byt q = y2 := HQ.out
      have ht1 := fun tail => take_put (byt_byte s) HO1.out tail
      have ht2 := fun tail => take_put (byt_byte t) HO2.out tail
      have hz1 := put_size (byt_byte s) HO1.out
      have hz2 := put_size (byt_byte t) HO2.out
      have hall : putD (byt (s ++ t)) = some (y1.take (y1.length - 1) ++ y2.drop 1) := by
        obtain ⟨x1, hx1, e1⟩ := put_some HO1.out
        obtain ⟨x2, hx2, e2⟩ := put_some HO2.out
        have hpp := pq_append _ (byt s) (byt t) x1 x2 (Nat.le_refl _) (byt_byte s) hx1 hx2
        rw [byt_append]
        unfold putD
        rw [hpp, e1, e2]
        have h3 : (34 :: (x1 ++ [34])).length - 1 = (34 :: x1).length := by simp
        rw [h3, ← List.cons_append, List.take_left]
        simp
      subst hp hq
      rw [byt_len] at hz1 hz2
      rw [byt_len] at hz1 hz2
      have hiff : p = q ↔ s = t := by
        constructor
        · intro h
          subst h
          have h1 := ht1 []
          rw [ht2 []] at h1
          simp only [Option.some.injEq, Prod.mk.injEq] at h1
          exact (byt_inj h1.1).symm
        · intro h
          subst h
          have h1 := HO1.out
          rw [HO2.out] at h1
          injection h1 with h1
          exact (byt_inj h1).symm
      obtain ⟨b, hb⟩ : ∃ b, (s.toList == t.toList) = b := ⟨_, rfl⟩
      have hb2 : (p.toList == q.toList) = b := by
        rw [← hb]
        apply bool_iff
        rw [str_beq, str_beq]
        exact hiff
      have hbb : (b != b) = false := by cases b <;> rfl
      obtain ⟨u, hu⟩ : ∃ u, p ++ q = u := ⟨_, rfl⟩
      have hub : byt u = byt p ++ byt q := by rw [← hu, byt_append]
      have HU := Lib.hid hub
      have hto := ht1 (byt q)
      rw [byt_len] at hto
      have HTO := Lib.hid hto
      have hto2 := ht2 []
      rw [List.append_nil, byt_len] at hto2
      have HTO2 := Lib.hid hto2
      have hps : p.size ≤ 410 := by omega
      have hqs : q.size ≤ 410 := by omega
      have hp2 : 2 ≤ p.size := by omega
      have hq2 : 2 ≤ q.size := by omega
      have hus : u.size ≤ 820 := by rw [← hu, ByteArray.size_append]; omega
      obtain ⟨st, hst⟩ : ∃ x, s ++ t = x := ⟨_, rfl⟩
      have hsts : st.size ≤ 80 := by rw [← hst, ByteArray.size_append]; omega
      rw [hst] at hall
      have HALL := Lib.hid hall
      clear hall hto hto2 hub ht1 ht2 hz1 hz2 hiff HO1 HO2 HP HQ
      obtain ⟨cap2, V2, B2⟩ := bytes_of u (by omega) W2
      have r2 := B2.run
      have HBY2 := Lib.hid B2
      clear B2
      go_wp2_with fail
      refine (take_txt HBY2.out HB2.out HS.out (by omega) _ HU.out _ HTO.out).mono ?_
      rintro e W3 ⟨v, hv, rfl, hb3⟩
      have HB3 := Lib.hid hb3
      obtain rfl : v = s := byt_inj hv
      clear hb3 hv r2 HBY2 HU HTO
      simp only [tkN, Option.isSome]
      obtain ⟨cap3, V3, B3⟩ := bytes_of q (by omega) W3
      have r3 := B3.run
      have HBY3 := Lib.hid B3
      clear B3
      go_wp2_with fail
      refine (take_txt HBY3.out HB3.out HS.out (by omega) _ rfl _ HTO2.out).mono ?_
      rintro e W4 ⟨v2, hv2, rfl, hb4⟩
      have HB4 := Lib.hid hb4
      obtain rfl : v2 = t := byt_inj hv2
      clear hb4 hv2 r3 HBY3 HTO2
      simp only [tkN, Option.isSome]
      go_wp2_with fail
      refine (put_txt HB4.out HS.out (by omega) _ HALL.out).mono ?_
      rintro e W5 ⟨z, hz, rfl, hb5⟩
      have HB5 := Lib.hid hb5
      have hz : byt z = (byt p).take ((byt p).length - 1) ++ (byt q).drop 1 := hz
      rw [byt_len] at hz
      have hzl : (z.size : Int) = (p.size : Int) + (q.size : Int) - 2 := by
        have h1 := byt_len z
        rw [hz, List.length_append, List.length_take, List.length_drop, byt_len, byt_len] at h1
        omega
      have ez : ((z.size : Int) == (p.size : Int) + (q.size : Int) - 2) = true := beq_iff_eq.2 hzl
      obtain ⟨p0, hp0, hsl1⟩ : ∃ p0 : ByteArray, byt p0 = (byt p).take (p.size - 1) ∧ ∀ W, (Instr.slice 9 (.string p) none (some (.int .i64 ((p.size : Int) - 1))) none).run Tryd.prog W = .ok (.string p0) W := by
        refine ⟨p.extract 0 (p.size - 1), ?_, fun W => ?_⟩
        · rw [byt_extract, List.drop_zero, Nat.sub_zero]
        · rw [run_slice_string_h (P := Tryd.prog) W 9 p Tryd.underlying9 .i64 _ (by omega) (by omega)]
          congr 3
          omega
      obtain ⟨q0, hq0, hsl2⟩ : ∃ q0 : ByteArray, byt q0 = (byt q).drop 1 ∧ ∀ W, (Instr.slice 9 (.string q) (some (.int .i64 1)) none none).run Tryd.prog W = .ok (.string q0) W := by
        refine ⟨q.extract 1 q.size, ?_, fun W => ?_⟩
        · rw [byt_extract, List.take_of_length_le (by rw [List.length_drop, byt_len]; omega)]
        · rw [run_slice_string_l (P := Tryd.prog) W 9 q Tryd.underlying9 .i64 _ (by omega) (by omega)]
          rfl
      have hpq : p0 ++ q0 = z := byt_inj (by rw [byt_append, hp0, hq0, hz])
      have hp0s : p0.size ≤ 500 := by have := byt_len p0; rw [hp0, List.length_take, byt_len] at this; omega
      have hq0s : q0.size ≤ 500 := by have := byt_len q0; rw [hq0, List.length_drop, byt_len] at this; omega
      have HW := Lib.hid (fun n => wakes_at (below_draws HB5.out n) HS.out)
      clear hb5 hz hzl hp0 hq0 hb hb2 hbb hu hst HALL
      simp only [Option.isSome]
      go_wp2_with fail
      have hw1 : IntKind.i64.wrap ((p.size : Int) + (q.size : Int)) = (p.size : Int) + (q.size : Int) := by rw [IntWalk.i64_in _ (by omega)]
      have hw2 : IntKind.i64.wrap ((p.size : Int) + (q.size : Int) - 2) = (p.size : Int) + (q.size : Int) - 2 := by rw [IntWalk.i64_in _ (by omega)]
      have hw3 : IntKind.i64.wrap ((p.size : Int) - 1) = (p.size : Int) - 1 := by rw [IntWalk.i64_in _ (by omega)]
      go_still_tail 39, (by kernel_rfl)
      refine wpStill_step (fun K hK => ?_)
      go_simp
      rw [if_neg (by omega)]
      refine ⟨rfl, hK _ ?_⟩
      clear hK K
      repeat still_step
      refine wpStill_nil ?_
      change wpList _ _ _ _ _ W5.drew
      obtain ⟨W6, hW6⟩ : ∃ W6, W6 = W5.drew := ⟨_, rfl⟩
      have HB6 : Hid (Below w.heap.size w W6) := by rw [hW6]; exact HB5.out.drew
      rw [← hW6]
      clear hW6 hw1 hw2 hw3 HW
      go_wp2_with fail
      refine (wakes_at HB6.out HS.out).mono ?_
      rintro e W7 ⟨rfl, hb7⟩
      have HB7 := Lib.hid hb7
      clear hb7
      go_wp2_with fail
      go_ret
      exact ⟨rfl, HB7.out⟩


set_option maxRecDepth 100000 in
theorem lifted (os : Os) (started : os.Started) (H : Type) (enc : TypeId × Value → H) :
    ReturnsInHanded {} Tryd.checked os 9 .any (fun w args => (Rows.doubleApartSpec.pre enc Tryd.prog Tryd.f9 Rows.doubleApartRow.domain false w args ∧ laidMetH Tryd.prog Rows.doubleApartRow.laid w) ∧ sizedMet enc Tryd.prog Tryd.f9 (OpenSpec.ofChange Rows.doubleApartSpec) false w args)
      (Rows.doubleApartSpec.post enc Tryd.prog Tryd.f9 false true false false) := by
  refine returns_listed (C := Tryd.checked) (X := fun w _ => laidMetH Tryd.prog Rows.doubleApartRow.laid w) (fun _ _ _ hh h => h.of_heap hh) own started (by kernel_rfl) Tryd.func9
    (ChangeSpec.witness_shaped (enc := enc) (C := Tryd.checked) (os := os) (X := fun w _ => laidMetH Tryd.prog Rows.doubleApartRow.laid w) false (World.laidAll Tryd.prog os Rows.doubleApartRow.laid) #[.string ByteArray.empty, .string ByteArray.empty] 8 (World.laidAll_os _ _ _)
      (World.shaped_of_ZipB (by kernel_rfl) (by kernel_rfl)) (by kernel_rfl) (by kernel_rfl) (by kernel_rfl)
      (by rw [MakeChecks.laidMetH_plain _ _ _ (by kernel_rfl)]; exact laidMet_laidAll _ (by kernel_rfl) (by kernel_rfl))) ?_
  intro W base args ds gs before hval0 hW hX hsh
  have hval : ∀ (j : Nat) t v, Tryd.f9.params[j]? = some t → args[j]? = some v → Value.okWide Tryd.prog W .any base t v := hval0
  have hW' := hW
  obtain ⟨p, q, hA0, hV, rfl, hfz, hnd⟩ := hW
  have hA : DataW.TrodAll enc Tryd.prog W 0 (fun _ => true) true Tryd.f9.params.toList args.toList ds p := hA0
  rw [Tryd.params9] at hA hval
  obtain ⟨v0, vs0, d0, ds0, p0, q0, hargs, rfl, rfl, h0, r0⟩ := trodAll_cons hA
  obtain ⟨v1, vs1, d1, ds1, p1, q1, rfl, rfl, rfl, h1, r1⟩ := trodAll_cons r0
  obtain ⟨rfl, rfl, rfl⟩ := trodAll_nil r1
  obtain rfl : args = #[v0, v1] := by cases args; simp_all
  obtain ⟨rfl, rfl⟩ := trodVars_none hV
  obtain ⟨a0, rfl, rfl, rfl, w0⟩ := open_string Tryd.underlying9 (hval 0 9 v0 rfl rfl) h0
  obtain ⟨a1, rfl, rfl, rfl, w1⟩ := open_string Tryd.underlying9 (hval 1 9 v1 rfl rfl) h1
  clear hA0 hval0
  refine (walk a0 a1 W w0 w1 (shorts_laid hX)).mono fun e W' ⟨he, bel⟩ => ?_
  subst he
  exact ⟨_, rfl, _, _, _, [], _, [], hW', trodAll_mk1 (shut_bool Tryd.underlying4 _), (trodAll_cons_mk (shut_string Tryd.underlying9 w0) (trodAll_cons_mk (shut_string Tryd.underlying9 w1) trodAll_mk0)), rfl, bel.frame _, fun h => by cases h⟩

theorem over : Rows.doubleApartRow.holds Tryd.pinned (OpenSpec.ofChange Rows.doubleApartSpec) :=
  OpenClaim.holds_of_wide 9 Tryd.f9 rfl rfl rfl rfl rfl rfl rfl ⟨rfl, rfl, rfl, rfl, rfl⟩ rfl rfl rfl rfl rfl (by kernel_rfl) Tryd.func9 (by kernel_rfl)
    (of_decide_eq_true (by kernel_rfl)) (by unfold Func.isWrapper; first | (rw [if_pos (by decide +kernel)]; kernel_rfl) | (rw [if_neg (by decide +kernel)]; exact ⟨rfl, rfl⟩))
    (fun os started H enc _ => lifted os started H enc)

theorem proved : Rows.DoubleApartCardSaid :=
  Claim7.holds_tied_plain_at .later [] [.data] true (true, "ab909530bb952c5f780ce0eaafa1f0b2631ff06e5414448791499cdd5477867f") false over (fun _ h => by cases h) (by kernel_rfl) (fun _ h => by cases h) doubleApart_row_tie rfl ⟨rfl, rfl⟩ (by kernel_rfl) rfl
    (fun f fn hf hfn => by
      obtain rfl : f = 9 := Option.some.inj ((show Tryd.prog.funcNamed Rows.doubleApartRow.func = some 9 by kernel_rfl).symm.trans hf) |>.symm
      obtain rfl : fn = Tryd.f9 := (Option.some.inj (Tryd.func9.symm.trans hfn)).symm
      exact ⟨by kernel_rfl, fun j t ht => by
        rw [Tryd.params9] at ht
        have hm : t ∈ [9, 9] := by simpa using Array.mem_of_getElem? ht
        have hall : ([9, 9].all fun u => !Tryd.prog.wantsStandIn u) = true := by kernel_rfl
        exact (show Tryd.prog.wantsStandIn t = false by simpa using List.all_eq_true.1 hall t hm)⟩)
    (by kernel_rfl)
#print axioms proved
end Go.Proofs.YtgiloooandiokaaDoor.doubleApart
