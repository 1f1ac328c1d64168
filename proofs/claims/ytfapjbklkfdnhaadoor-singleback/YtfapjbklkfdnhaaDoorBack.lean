/-
  Proved: the card of the law 'scholium/scholiumlaw05.SingleBack' (for every input it returns true, and every argument reads as it did before; the listed tables of Go's library are tied to the program's text). No conditions.
-/
import Derived.Test.YtfapjbklkfdnhaaDoorRows
import Derived.Test.YtfapjbklkfdnhaaDoorCards
import Derived.Test.YtfapjbklkfdnhaaDoorTie
import Derived.Test.YtfapjbklkfdnhaaDoorDoor
import Derived.Test.YtfapjbklkfdnhaaDoorSgLaw
import Derived.Test.YtfapjbklkfdnhaaDoorKeep
import Derived.WalkKit
import Derived.ProofKit
import Derived.OpenShut
import Derived.ShutString
import Derived.ChangeOld
import Derived.Below
import Derived.LaidMore
import Derived.Lay
import Derived.SevenTiedAt
namespace Go.Proofs.YtfapjbklkfdnhaaDoor.singleBack
open Go.ChangeShapes Go.WideShapes Go.ChangeAt Go.RowKit
open Go.ChangeMaps (open_string shut_string)
set_option linter.unusedVariables false

theorem own : ownKnob Tryd.prog.godebug = none := by kernel_rfl
theorem laidOut : laidOutB Tryd.prog = true := by kernel_rfl

/-- A slice of integers that came in. -/
def IsRow (k : IntKind) (w : World) (a : Option Addr) (len cap : Nat) (zs : List Int) : Prop :=
  (a = none ∧ len = 0 ∧ cap = 0 ∧ zs = []) ∨
  ∃ x, a = some x ∧ len ≤ cap ∧ cap ≤ maxLen ∧ zs.length = cap ∧ (∀ i, i < zs.length → w.cell? (x.add i) = some (.int k (zs.getD i 0))) ∧ ∀ n ∈ zs, (Lit.int k n).wf = true

set_option maxHeartbeats 2000000 in
set_option maxRecDepth 100000 in
theorem walk (a0 : ByteArray) (a1 : ByteArray) (w : World) (w0 : a0.size ≤ maxLen) (w1 : a1.size ≤ maxLen) (hM : MaxL w) :
    Calls Tryd.prog 6 #[.string a0, .string a1] w fun e w' => e = .returned (.bool true) ∧ Below w.heap.size w w' := by
  have HM := Lib.hid hM
  have HB0 : Hid (Below w.heap.size w w) := Below.refl _ _
  clear hM
  go_enter Tryd.func6, Tryd.ntmps6
  go_wp2_with fail
  refine (text_any a0 60 _ (by omega) w0).mono ?_
  rintro e w' ⟨s, _, hs, rfl, rfl⟩
  clear w0
  go_wp2_with fail
  refine (text_any a1 10 _ (by omega) w1).mono ?_
  rintro e w' ⟨t0, _, ht0, rfl, rfl⟩
  clear w1
  obtain ⟨ok, hok⟩ : ∃ ok, inF true s.size (byt s) = ok := ⟨_, rfl⟩
  have HK := Lib.hid hok
  clear hok
  by_cases h0 : 0 < t0.size
  · have d0 : (0 : Int) < (t0.size : Int) := by omega
    have hh := head_str h0
    by_cases hq : (t0[0].toNat : Int) = 39
    · have eq : ((t0[0].toNat : Int) == 39) = true := beq_iff_eq.2 hq
      obtain ⟨tl, htl⟩ : ∃ u, (⟨#[120]⟩ : ByteArray) ++ t0 = u := ⟨_, rfl⟩
      have HTL : Hid ((byt tl).head? ≠ some 39) := by show _ ≠ _; rw [← htl, byt_append]; simp [byt]
      have htls : tl.size ≤ 11 := by rw [← htl, ByteArray.size_append]; have : (⟨#[120]⟩ : ByteArray).size = 1 := rfl; omega
      clear hh hq
      go_wp2_with fail
      refine (put_txt HB0.out HM.out (by omega) ok HK.out).mono ?_
      rintro e W1 ⟨p, hp, rfl, hb1⟩
      have HB1 := Lib.hid hb1
      clear hb1
      cases ok
      · obtain rfl : p = ⟨#[]⟩ := byt_inj (by rw [hp]; rfl)
        clear hp
        go_wp2_with fail
        refine (wakes_at HB1.out HM.out).mono ?_
        rintro e W2 ⟨rfl, hb2⟩
        have HB2 := Lib.hid hb2
        clear hb2
        go_wp2_with fail
        go_ret
        exact ⟨rfl, HB2.out⟩
      · have hp : byt p = putF (byt s) := hp
        have hpl := put_len hp
        have hcl : (byt s).count 39 ≤ (byt s).length := List.count_le_length
        rw [byt_len] at hpl hcl
        have hnb := inF_nobrk s.size (byt s) (byt_byte s) (by rw [byt_len]; omega) HK.out
        have hpn : (putF (byt s)).length = p.size := by rw [← hp, byt_len]
        have hto := take_put (byt s) (byt tl) hnb HTL.out
        rw [hpn] at hto
        have HTO := Lib.hid hto
        obtain ⟨p0, hp0, hsl⟩ : ∃ p0 : ByteArray, byt p0 = 39 :: dbl (byt s) ∧ ∀ W, (Instr.slice 9 (.string p) none (some (.int .i64 ((p.size : Int) - 1))) none).run Tryd.prog W = .ok (.string p0) W := by
          refine ⟨p.extract 0 (p.size - 1), ?_, fun W => ?_⟩
          · rw [byt_extract, hp, List.drop_zero, Nat.sub_zero]
            have : p.size - 1 = (39 :: dbl (byt s)).length := by rw [← hpn]; simp [putF]
            rw [this]
            unfold putF
            rw [← List.cons_append, List.take_left]
          · rw [run_slice_string_h (P := Tryd.prog) W 9 p Tryd.underlying9 .i64 _ (by omega) (by omega)]
            congr 3
            omega
        have HP0 := Lib.hid hp0
        have hp0s : p0.size ≤ 200 := by
          have h1 := byt_len p0
          rw [hp0] at h1
          have h2 : (39 :: dbl (byt s)).length + 1 = (putF (byt s)).length := by simp [putF]
          rw [hpn] at h2
          omega
        have HN2 := Lib.hid (take_open (byt s) hnb)
        have hp2 : s.size + 2 ≤ p.size := by omega
        have hp3 : p.size ≤ 200 := by omega
        have HP := Lib.hid hp
        clear hp hpl hcl hnb hpn hto hp0
        have e0 : ((p.size : Int) == 0) = false := beq_eq_false_iff_ne.2 (by omega)
        have d2 : (s.size : Int) + 2 ≤ (p.size : Int) := by omega
        obtain ⟨u, hu⟩ : ∃ u, p ++ tl = u := ⟨_, rfl⟩
        have HU : Hid (byt u = putF (byt s) ++ byt tl) := by show byt u = _; rw [← hu, byt_append, HP.out]
        have hus : u.size ≤ 300 := by rw [← hu, ByteArray.size_append]; omega
        obtain ⟨cap2, V2, B2⟩ := bytes_of u (by omega) W1
        have r2 := B2.run
        have HBY2 := Lib.hid B2
        clear B2
        go_wp2_with fail
        refine (take_txt HBY2.out HB1.out HM.out (by omega) _ HU.out _ HTO.out).mono ?_
        rintro e W2 ⟨v, hv, rfl, hb2⟩
        have HB2 := Lib.hid hb2
        obtain rfl : v = s := byt_inj hv
        clear hb2 hv r2 HBY2 hu
        simp only [tkN, Option.isSome]
        obtain ⟨cap3, V3, B3⟩ := bytes_of p0 (by omega) W2
        have r3 := B3.run
        have HBY3 := Lib.hid B3
        clear B3
        go_wp2_with fail
        refine (take_txt HBY3.out HB2.out HM.out (by omega) _ HP0.out _ HN2.out).mono ?_
        rintro e W3 ⟨v2, hv2, rfl, hb3⟩
        have HB3 := Lib.hid hb3
        clear hb3 hv2 r3 HBY3
        simp only [tkN, Option.isSome]
        go_wp2_with fail
        refine (wakes_at HB3.out HM.out).mono ?_
        rintro e W4 ⟨rfl, hb4⟩
        have HB4 := Lib.hid hb4
        clear hb4
        go_wp2_with fail
        go_ret
        exact ⟨rfl, HB4.out⟩
    · have eq : ((t0[0].toNat : Int) == 39) = false := beq_eq_false_iff_ne.2 hq
      have HTL : Hid ((byt t0).head? ≠ some 39) := by show _ ≠ _; rw [hh]; intro e; exact hq (Option.some.inj e)
      have htls : t0.size ≤ 11 := by omega
      obtain ⟨tl, htl⟩ : ∃ x : ByteArray, x = t0 := ⟨_, rfl⟩
      subst htl
      clear hh hq
      go_wp2_with fail
      refine (put_txt HB0.out HM.out (by omega) ok HK.out).mono ?_
      rintro e W1 ⟨p, hp, rfl, hb1⟩
      have HB1 := Lib.hid hb1
      clear hb1
      cases ok
      · obtain rfl : p = ⟨#[]⟩ := byt_inj (by rw [hp]; rfl)
        clear hp
        go_wp2_with fail
        refine (wakes_at HB1.out HM.out).mono ?_
        rintro e W2 ⟨rfl, hb2⟩
        have HB2 := Lib.hid hb2
        clear hb2
        go_wp2_with fail
        go_ret
        exact ⟨rfl, HB2.out⟩
      · have hp : byt p = putF (byt s) := hp
        have hpl := put_len hp
        have hcl : (byt s).count 39 ≤ (byt s).length := List.count_le_length
        rw [byt_len] at hpl hcl
        have hnb := inF_nobrk s.size (byt s) (byt_byte s) (by rw [byt_len]; omega) HK.out
        have hpn : (putF (byt s)).length = p.size := by rw [← hp, byt_len]
        have hto := take_put (byt s) (byt tl) hnb HTL.out
        rw [hpn] at hto
        have HTO := Lib.hid hto
        obtain ⟨p0, hp0, hsl⟩ : ∃ p0 : ByteArray, byt p0 = 39 :: dbl (byt s) ∧ ∀ W, (Instr.slice 9 (.string p) none (some (.int .i64 ((p.size : Int) - 1))) none).run Tryd.prog W = .ok (.string p0) W := by
          refine ⟨p.extract 0 (p.size - 1), ?_, fun W => ?_⟩
          · rw [byt_extract, hp, List.drop_zero, Nat.sub_zero]
            have : p.size - 1 = (39 :: dbl (byt s)).length := by rw [← hpn]; simp [putF]
            rw [this]
            unfold putF
            rw [← List.cons_append, List.take_left]
          · rw [run_slice_string_h (P := Tryd.prog) W 9 p Tryd.underlying9 .i64 _ (by omega) (by omega)]
            congr 3
            omega
        have HP0 := Lib.hid hp0
        have hp0s : p0.size ≤ 200 := by
          have h1 := byt_len p0
          rw [hp0] at h1
          have h2 : (39 :: dbl (byt s)).length + 1 = (putF (byt s)).length := by simp [putF]
          rw [hpn] at h2
          omega
        have HN2 := Lib.hid (take_open (byt s) hnb)
        have hp2 : s.size + 2 ≤ p.size := by omega
        have hp3 : p.size ≤ 200 := by omega
        have HP := Lib.hid hp
        clear hp hpl hcl hnb hpn hto hp0
        have e0 : ((p.size : Int) == 0) = false := beq_eq_false_iff_ne.2 (by omega)
        have d2 : (s.size : Int) + 2 ≤ (p.size : Int) := by omega
        obtain ⟨u, hu⟩ : ∃ u, p ++ tl = u := ⟨_, rfl⟩
        have HU : Hid (byt u = putF (byt s) ++ byt tl) := by show byt u = _; rw [← hu, byt_append, HP.out]
        have hus : u.size ≤ 300 := by rw [← hu, ByteArray.size_append]; omega
        obtain ⟨cap2, V2, B2⟩ := bytes_of u (by omega) W1
        have r2 := B2.run
        have HBY2 := Lib.hid B2
        clear B2
        go_wp2_with fail
        refine (take_txt HBY2.out HB1.out HM.out (by omega) _ HU.out _ HTO.out).mono ?_
        rintro e W2 ⟨v, hv, rfl, hb2⟩
        have HB2 := Lib.hid hb2
        obtain rfl : v = s := byt_inj hv
        clear hb2 hv r2 HBY2 hu
        simp only [tkN, Option.isSome]
        obtain ⟨cap3, V3, B3⟩ := bytes_of p0 (by omega) W2
        have r3 := B3.run
        have HBY3 := Lib.hid B3
        clear B3
        go_wp2_with fail
        refine (take_txt HBY3.out HB2.out HM.out (by omega) _ HP0.out _ HN2.out).mono ?_
        rintro e W3 ⟨v2, hv2, rfl, hb3⟩
        have HB3 := Lib.hid hb3
        clear hb3 hv2 r3 HBY3
        simp only [tkN, Option.isSome]
        go_wp2_with fail
        refine (wakes_at HB3.out HM.out).mono ?_
        rintro e W4 ⟨rfl, hb4⟩
        have HB4 := Lib.hid hb4
        clear hb4
        go_wp2_with fail
        go_ret
        exact ⟨rfl, HB4.out⟩
  · have d0 : decide ((0 : Int) < (t0.size : Int)) = false := decide_eq_false (by omega)
    have htls : t0.size ≤ 11 := by omega
    have HTL : Hid ((byt t0).head? ≠ some 39) := by
      show _ ≠ _
      have : byt t0 = [] := List.eq_nil_of_length_eq_zero (by rw [byt_len]; omega)
      rw [this]; simp
    obtain ⟨tl, htl⟩ : ∃ x : ByteArray, x = t0 := ⟨_, rfl⟩
    subst htl
    go_wp2_with fail
    refine (put_txt HB0.out HM.out (by omega) ok HK.out).mono ?_
    rintro e W1 ⟨p, hp, rfl, hb1⟩
    have HB1 := Lib.hid hb1
    clear hb1
    cases ok
    · obtain rfl : p = ⟨#[]⟩ := byt_inj (by rw [hp]; rfl)
      clear hp
      go_wp2_with fail
      refine (wakes_at HB1.out HM.out).mono ?_
      rintro e W2 ⟨rfl, hb2⟩
      have HB2 := Lib.hid hb2
      clear hb2
      go_wp2_with fail
      go_ret
      exact ⟨rfl, HB2.out⟩
    · have hp : byt p = putF (byt s) := hp
      have hpl := put_len hp
      have hcl : (byt s).count 39 ≤ (byt s).length := List.count_le_length
      rw [byt_len] at hpl hcl
      have hnb := inF_nobrk s.size (byt s) (byt_byte s) (by rw [byt_len]; omega) HK.out
      have hpn : (putF (byt s)).length = p.size := by rw [← hp, byt_len]
      have hto := take_put (byt s) (byt tl) hnb HTL.out
      rw [hpn] at hto
      have HTO := Lib.hid hto
      obtain ⟨p0, hp0, hsl⟩ : ∃ p0 : ByteArray, byt p0 = 39 :: dbl (byt s) ∧ ∀ W, (Instr.slice 9 (.string p) none (some (.int .i64 ((p.size : Int) - 1))) none).run Tryd.prog W = .ok (.string p0) W := by
        refine ⟨p.extract 0 (p.size - 1), ?_, fun W => ?_⟩
        · rw [byt_extract, hp, List.drop_zero, Nat.sub_zero]
          have : p.size - 1 = (39 :: dbl (byt s)).length := by rw [← hpn]; simp [putF]
          rw [this]
          unfold putF
          rw [← List.cons_append, List.take_left]
        · rw [run_slice_string_h (P := Tryd.prog) W 9 p Tryd.underlying9 .i64 _ (by omega) (by omega)]
          congr 3
          omega
      have HP0 := Lib.hid hp0
      have hp0s : p0.size ≤ 200 := by
        have h1 := byt_len p0
        rw [hp0] at h1
        have h2 : (39 :: dbl (byt s)).length + 1 = (putF (byt s)).length := by simp [putF]
        rw [hpn] at h2
        omega
      have HN2 := Lib.hid (take_open (byt s) hnb)
      have hp2 : s.size + 2 ≤ p.size := by omega
      have hp3 : p.size ≤ 200 := by omega
      have HP := Lib.hid hp
      clear hp hpl hcl hnb hpn hto hp0
      have e0 : ((p.size : Int) == 0) = false := beq_eq_false_iff_ne.2 (by omega)
      have d2 : (s.size : Int) + 2 ≤ (p.size : Int) := by omega
      obtain ⟨u, hu⟩ : ∃ u, p ++ tl = u := ⟨_, rfl⟩
      have HU : Hid (byt u = putF (byt s) ++ byt tl) := by show byt u = _; rw [← hu, byt_append, HP.out]
      have hus : u.size ≤ 300 := by rw [← hu, ByteArray.size_append]; omega
      obtain ⟨cap2, V2, B2⟩ := bytes_of u (by omega) W1
      have r2 := B2.run
      have HBY2 := Lib.hid B2
      clear B2
      go_wp2_with fail
      refine (take_txt HBY2.out HB1.out HM.out (by omega) _ HU.out _ HTO.out).mono ?_
      rintro e W2 ⟨v, hv, rfl, hb2⟩
      have HB2 := Lib.hid hb2
      obtain rfl : v = s := byt_inj hv
      clear hb2 hv r2 HBY2 hu
      simp only [tkN, Option.isSome]
      obtain ⟨cap3, V3, B3⟩ := bytes_of p0 (by omega) W2
      have r3 := B3.run
      have HBY3 := Lib.hid B3
      clear B3
      go_wp2_with fail
      refine (take_txt HBY3.out HB2.out HM.out (by omega) _ HP0.out _ HN2.out).mono ?_
      rintro e W3 ⟨v2, hv2, rfl, hb3⟩
      have HB3 := Lib.hid hb3
      clear hb3 hv2 r3 HBY3
      simp only [tkN, Option.isSome]
      go_wp2_with fail
      refine (wakes_at HB3.out HM.out).mono ?_
      rintro e W4 ⟨rfl, hb4⟩
      have HB4 := Lib.hid hb4
      clear hb4
      go_wp2_with fail
      go_ret
      exact ⟨rfl, HB4.out⟩


set_option maxRecDepth 100000 in
theorem lifted (os : Os) (started : os.Started) (H : Type) (enc : TypeId × Value → H) :
    ReturnsInHanded {} Tryd.checked os 6 .any (fun w args => (Rows.singleBackSpec.pre enc Tryd.prog Tryd.f6 Rows.singleBackRow.domain false w args ∧ laidMetH Tryd.prog Rows.singleBackRow.laid w) ∧ sizedMet enc Tryd.prog Tryd.f6 (OpenSpec.ofChange Rows.singleBackSpec) false w args)
      (Rows.singleBackSpec.post enc Tryd.prog Tryd.f6 false true false false) := by
  refine returns_listed (C := Tryd.checked) (X := fun w _ => laidMetH Tryd.prog Rows.singleBackRow.laid w) (fun _ _ _ hh h => h.of_heap hh) own started (by kernel_rfl) Tryd.func6
    (ChangeSpec.witness_shaped (enc := enc) (C := Tryd.checked) (os := os) (X := fun w _ => laidMetH Tryd.prog Rows.singleBackRow.laid w) false (World.laidAll Tryd.prog os Rows.singleBackRow.laid) #[.string ByteArray.empty, .string ByteArray.empty] 8 (World.laidAll_os _ _ _)
      (World.shaped_of_ZipB (by kernel_rfl) (by kernel_rfl)) (by kernel_rfl) (by kernel_rfl) (by kernel_rfl)
      (by rw [MakeChecks.laidMetH_plain _ _ _ (by kernel_rfl)]; exact laidMet_laidAll _ (by kernel_rfl) (by kernel_rfl))) ?_
  intro W base args ds gs before hval0 hW _ hsh
  have hval : ∀ (j : Nat) t v, Tryd.f6.params[j]? = some t → args[j]? = some v → Value.okWide Tryd.prog W .any base t v := hval0
  have hW' := hW
  obtain ⟨p, q, hA0, hV, rfl, hfz, hnd⟩ := hW
  have hA : DataW.TrodAll enc Tryd.prog W 0 (fun _ => true) true Tryd.f6.params.toList args.toList ds p := hA0
  rw [Tryd.params6] at hA hval
  obtain ⟨v0, vs0, d0, ds0, p0, q0, hargs, rfl, rfl, h0, r0⟩ := trodAll_cons hA
  obtain ⟨v1, vs1, d1, ds1, p1, q1, rfl, rfl, rfl, h1, r1⟩ := trodAll_cons r0
  obtain ⟨rfl, rfl, rfl⟩ := trodAll_nil r1
  obtain rfl : args = #[v0, v1] := by cases args; simp_all
  obtain ⟨rfl, rfl⟩ := trodVars_none hV
  obtain ⟨a0, rfl, rfl, rfl, w0⟩ := open_string Tryd.underlying9 (hval 0 9 v0 rfl rfl) h0
  obtain ⟨a1, rfl, rfl, rfl, w1⟩ := open_string Tryd.underlying9 (hval 1 9 v1 rfl rfl) h1
  clear hA0 hval0
  refine (walk a0 a1 W w0 w1 (maxL_shaped hsh)).mono fun e W' ⟨he, bel⟩ => ?_
  subst he
  exact ⟨_, rfl, _, _, _, [], _, [], hW', trodAll_mk1 (shut_bool Tryd.underlying4 _), (trodAll_cons_mk (shut_string Tryd.underlying9 w0) (trodAll_cons_mk (shut_string Tryd.underlying9 w1) trodAll_mk0)), rfl, bel.frame _, fun h => by cases h⟩

theorem over : Rows.singleBackRow.holds Tryd.pinned (OpenSpec.ofChange Rows.singleBackSpec) :=
  OpenClaim.holds_of_wide 6 Tryd.f6 rfl rfl rfl rfl rfl rfl rfl ⟨rfl, rfl, rfl, rfl, rfl⟩ rfl rfl rfl rfl rfl (by kernel_rfl) Tryd.func6 (by kernel_rfl)
    (of_decide_eq_true (by kernel_rfl)) (by unfold Func.isWrapper; first | (rw [if_pos (by decide +kernel)]; kernel_rfl) | (rw [if_neg (by decide +kernel)]; exact ⟨rfl, rfl⟩))
    (fun os started H enc _ => lifted os started H enc)

theorem proved : Rows.SingleBackCardSaid :=
  Claim7.holds_tied_plain_at .later [] [.data, .pinned] true (true, "c5e4571ad1cca09650eba91c1bb4250b8a20ec4ae701ff2c2e70efc704cfcc79") false over (fun _ h => by cases h) (by kernel_rfl) (fun _ h => by cases h) singleBack_row_tie rfl ⟨rfl, rfl⟩ (by kernel_rfl) rfl
    (fun f fn hf hfn => by
      obtain rfl : f = 6 := Option.some.inj ((show Tryd.prog.funcNamed Rows.singleBackRow.func = some 6 by kernel_rfl).symm.trans hf) |>.symm
      obtain rfl : fn = Tryd.f6 := (Option.some.inj (Tryd.func6.symm.trans hfn)).symm
      exact ⟨by kernel_rfl, fun j t ht => by
        rw [Tryd.params6] at ht
        have hm : t ∈ [9, 9] := by simpa using Array.mem_of_getElem? ht
        have hall : ([9, 9].all fun u => !Tryd.prog.wantsStandIn u) = true := by kernel_rfl
        exact (show Tryd.prog.wantsStandIn t = false by simpa using List.all_eq_true.1 hall t hm)⟩)
    (by kernel_rfl)
#print axioms proved
end Go.Proofs.YtfapjbklkfdnhaaDoor.singleBack
