/-
  Proved: the law 'scholium/scholiumlaw10.PropsAliases' returns true for every input, and every argument reads as it did before. No conditions.
-/
import Derived.Test.YtpmikhhnnjhiaaaRows
import Derived.Test.YtpmikhhnnjhiaaaPrLaw
import Derived.Test.YtpmikhhnnjhiaaaKeep
import Derived.WalkKit
import Derived.ProofKit
import Derived.OpenShut
import Derived.ShutString
namespace Go.Proofs.Ytpmikhhnnjhiaaa.propsAliases
open Go.ChangeShapes Go.WideShapes Go.ChangeAt Go.RowKit
open Go.ChangeMaps (open_string shut_string)
set_option linter.unusedVariables false      -- a walk need not use every 'w<i>' (that an integer argument fits its kind)

theorem own : ownKnob Try.prog.godebug = none := by kernel_rfl

def patA : List Int := [97, 66, 48, 95, 45]
theorem patA_at (k : Nat) : byt (((⟨#[97, 66, 48, 95, 45]⟩ : ByteArray).extract (k % 5) 5).extract 0 1) = [patA.getD (k % 5) 0] := by
  have h : ∀ j : Fin 5, byt (((⟨#[97, 66, 48, 95, 45]⟩ : ByteArray).extract j.val 5).extract 0 1) = [patA.getD j.val 0] := by decide +kernel
  exact h ⟨k % 5, Nat.mod_lt _ (by omega)⟩
set_option maxRecDepth 100000
set_option maxHeartbeats 4000000 in
theorem walk (a0 : Int) (a1 : Int) (w0 : (Lit.int .i64 a0).wf = true) (w1 : (Lit.int .u8 a1).wf = true) (w : World) :
    Calls Try.prog 4 #[.int .i64 a0, .int .u8 a1] w fun e w' => e = .returned (.bool true) ∧ Below w.heap.size w w' := by
  have hb0 := bounds_i64 w0
  have hb1 := bounds_u8 w1
  have B0 : Hid (Below w.heap.size w w) := Below.refl _ _
  go_enter Try.func4, Try.ntmps4
  go_wp2_with fail
  refine (within_nat a0 35 _ (by omega) (by omega) (by omega)).mono ?_
  rintro e w' ⟨q, hq, rfl, rfl⟩
  go_wp2_with fail
  go_loop [5, 6] (fun s i => ∃ (k : Nat) (t : ByteArray), k ≤ q ∧ t.size ≤ k ∧ s = .string t ∧ i = .int .i64 (k : Int) ∧ Hid (byt t = patL patA k)) (fun _ i => 40 - (intOf i).toNat)
  case atStart => exact ⟨0, ⟨#[]⟩, by omega, by decide, rfl, rfl, rfl⟩
  case round =>
    obtain ⟨k, t, hk, hts, rfl, rfl, HT⟩ := hrel
    by_cases hlt : k < q
    · have hd : (k : Int) < (q : Int) := by omega
      have h5 : k % 5 < 5 := Nat.mod_lt _ (by omega)
      go_wp2_with fail
      go_round
      case rel =>
        have hn : byt (t ++ ((⟨#[97, 66, 48, 95, 45]⟩ : ByteArray).extract (k % 5) 5).extract 0 1) = patL patA (k + 1) := by rw [byt_append, HT.out, patA_at, patL_succ]
        exact ⟨k + 1, _, by omega, by rw [← byt_len, hn, patL_len]; omega, rfl, by go_num, hn⟩
      case measure => simp [intOf]; omega
    · obtain rfl : k = q := by omega
      obtain ⟨q, hqe⟩ : ∃ q, q = k := ⟨_, rfl⟩
      subst hqe
      have hts' : t.size ≤ 40 := by omega
      clear hlt hk hts
      go_upto_region 7 with fail
      go_cut [1, 56] (fun c s W => c = .int .u8 a1 ∧ s = .bool (nmb a1) ∧ w = W)
      case first =>
        go_wp2_with fail
        all_goals go_meet
        all_goals
          refine ⟨by first | rfl | simp [*], congrArg Value.bool (bool_iff ?_), rfl⟩
          simp only [nmb, dgt]
          simp_all
          try omega
      case rest =>
        obtain ⟨rfl, rfl, rfl⟩ := hcut
        cases hnb : nmb a1 with
        | true =>
          obtain ⟨u, hu⟩ : ∃ u, (⟨#[42]⟩ : ByteArray) ++ t = u := ⟨_, rfl⟩
          have hub : byt u = 42 :: byt t := by rw [← hu, byt_append]; rfl
          have hus : u.size ≤ 41 := by have := byt_len u; rw [hub] at this; simp [byt_len] at this; omega
          obtain ⟨W1, hW1⟩ : ∃ W1, w.alloc (.cells #[.int .u8 44] 5) = W1 := ⟨_, rfl⟩
          have hrs := run_string_rd W1 (some ⟨w.heap.size, 0, none⟩) 1 1 [44] rfl (by rw [← hW1]; exact RdB.new rfl one_at)
          obtain ⟨x, hx⟩ : ∃ x, strOfNums [44] = x := ⟨_, rfl⟩
          have hxb : byt x = [44] := by rw [← hx]; exact byt_strOfNums _ (by intro y hy; simp at hy; subst hy; omega)
          have hxs : x.size ≤ 1 := by have := byt_len x; rw [hxb] at this; simp at this; omega
          rw [hx] at hrs
          have HB1 : Hid (Below w.heap.size w W1) := by show Below _ _ _; rw [← hW1]; exact (Below.refl _ _).alloc (Nat.le_refl _) _
          obtain ⟨v, hv⟩ : ∃ v, u ++ x = v := ⟨_, rfl⟩
          have hvb : byt v = 42 :: (byt t ++ [44]) := by rw [← hv, byt_append, hub, hxb]; rfl
          have hvs : v.size ≤ 42 := by have := byt_len v; rw [hvb] at this; simp [byt_len] at this; omega
          obtain ⟨cap, W2, B⟩ := bytes_of v (by omega) W1
          have hrun := B.run
          have hcap := B.le
          have hcapm := B.max
          have HB := Lib.hid B
          have hall : (byt t).all nmb = true := by rw [HT.out, List.all_eq_true]; intro y hy; have h5 := patL_mem hy rfl; clear hy; revert y; decide
          have hlen : (byt t).length = q := by rw [HT.out, patL_len]
          have hal := alias_pat (byt t) (44) rfl hall
          rw [← hvb, hlen] at hal
          have hno : aliasF (byt t) = ([], 0, false) := by
            refine alias_none _ ?_
            intro h
            rw [List.all_eq_true] at hall
            have := hall 42 (List.mem_of_mem_head? (by rw [h]; rfl))
            revert this; decide
          have HNO := Lib.hid hno
          clear hub hxb hvb B hno hall hlen hx
          by_cases h1 : 1 ≤ q
          · have d1 : (1 : Int) ≤ (q : Int) := by omega
            by_cases h2 : q ≤ 32
            · have d2 : (q : Int) ≤ 32 := by omega
              rw [if_pos ⟨h1, h2⟩] at hal
              have HAL := Lib.hid hal
              clear hal
              go_wp2_with fail
              refine (alias_txt HB.out HB1.out (by omega) (byt v) rfl).mono ?_
              rintro e W3 ⟨s', hs', rfl, hb3⟩
              rw [HAL.out] at hs' ⊢
              obtain rfl : t = s' := (byt_inj hs').symm
              simp only [show ((q + 1 : Nat) : Int) = (q : Int) + 1 from by omega]
              have HB3 := Lib.hid hb3
              clear hs' hb3 HAL hrun hrs HB
              obtain ⟨cap2, W4, B2⟩ := bytes_of t (by omega) W3
              have hrun2 := B2.run
              have hcap2 := B2.le
              have hcapm2 := B2.max
              have HB2 := Lib.hid B2
              clear B2
              go_wp2_with fail
              refine (alias_txt HB2.out HB3.out (by omega) (byt t) rfl).mono ?_
              rintro e W5 ⟨s', hs', rfl, hb5⟩
              rw [HNO.out]
              have HB5 := Lib.hid hb5
              clear hs' hb5 hrun2
              go_wp2_with (go_at_call 10; refine (wakes_at HB5.out).mono ?_; rintro e w9 ⟨rfl, hb9⟩)
              go_ret
              exact ⟨rfl, hb9⟩
            · have d2 : decide ((q : Int) ≤ 32) = false := decide_eq_false (by omega)
              rw [if_neg (fun h => h2 h.2)] at hal
              have HAL := Lib.hid hal
              clear hal
              go_wp2_with fail
              refine (alias_txt HB.out HB1.out (by omega) (byt v) rfl).mono ?_
              rintro e W3 ⟨s', hs', rfl, hb3⟩
              rw [HAL.out] at hs' ⊢
              obtain rfl : s' = ⟨#[]⟩ := byt_inj hs'
              simp only [show ((0 : Nat) : Int) = 0 from rfl]
              have HB3 := Lib.hid hb3
              clear hs' hb3 HAL hrun hrs HB
              obtain ⟨cap2, W4, B2⟩ := bytes_of t (by omega) W3
              have hrun2 := B2.run
              have hcap2 := B2.le
              have hcapm2 := B2.max
              have HB2 := Lib.hid B2
              clear B2
              go_wp2_with fail
              refine (alias_txt HB2.out HB3.out (by omega) (byt t) rfl).mono ?_
              rintro e W5 ⟨s', hs', rfl, hb5⟩
              rw [HNO.out]
              have HB5 := Lib.hid hb5
              clear hs' hb5 hrun2
              go_wp2_with (go_at_call 10; refine (wakes_at HB5.out).mono ?_; rintro e w9 ⟨rfl, hb9⟩)
              go_ret
              exact ⟨rfl, hb9⟩
          · have d1 : decide ((1 : Int) ≤ (q : Int)) = false := decide_eq_false (by omega)
            rw [if_neg (fun h => h1 h.1)] at hal
            have HAL := Lib.hid hal
            clear hal
            go_wp2_with fail
            refine (alias_txt HB.out HB1.out (by omega) (byt v) rfl).mono ?_
            rintro e W3 ⟨s', hs', rfl, hb3⟩
            rw [HAL.out] at hs' ⊢
            obtain rfl : s' = ⟨#[]⟩ := byt_inj hs'
            simp only [show ((0 : Nat) : Int) = 0 from rfl]
            have HB3 := Lib.hid hb3
            clear hs' hb3 HAL hrun hrs HB
            obtain ⟨cap2, W4, B2⟩ := bytes_of t (by omega) W3
            have hrun2 := B2.run
            have hcap2 := B2.le
            have hcapm2 := B2.max
            have HB2 := Lib.hid B2
            clear B2
            go_wp2_with fail
            refine (alias_txt HB2.out HB3.out (by omega) (byt t) rfl).mono ?_
            rintro e W5 ⟨s', hs', rfl, hb5⟩
            rw [HNO.out]
            have HB5 := Lib.hid hb5
            clear hs' hb5 hrun2
            go_wp2_with (go_at_call 10; refine (wakes_at HB5.out).mono ?_; rintro e w9 ⟨rfl, hb9⟩)
            go_ret
            exact ⟨rfl, hb9⟩
        | false =>
          obtain ⟨u, hu⟩ : ∃ u, (⟨#[42]⟩ : ByteArray) ++ t = u := ⟨_, rfl⟩
          have hub : byt u = 42 :: byt t := by rw [← hu, byt_append]; rfl
          have hus : u.size ≤ 41 := by have := byt_len u; rw [hub] at this; simp [byt_len] at this; omega
          obtain ⟨W1, hW1⟩ : ∃ W1, w.alloc (.cells #[.int .u8 a1] 5) = W1 := ⟨_, rfl⟩
          have hrs := run_string_rd W1 (some ⟨w.heap.size, 0, none⟩) 1 1 [a1] rfl (by rw [← hW1]; exact RdB.new rfl one_at)
          obtain ⟨x, hx⟩ : ∃ x, strOfNums [a1] = x := ⟨_, rfl⟩
          have hxb : byt x = [a1] := by rw [← hx]; exact byt_strOfNums _ (by intro y hy; simp at hy; subst hy; omega)
          have hxs : x.size ≤ 1 := by have := byt_len x; rw [hxb] at this; simp at this; omega
          rw [hx] at hrs
          have HB1 : Hid (Below w.heap.size w W1) := by show Below _ _ _; rw [← hW1]; exact (Below.refl _ _).alloc (Nat.le_refl _) _
          obtain ⟨v, hv⟩ : ∃ v, u ++ x = v := ⟨_, rfl⟩
          have hvb : byt v = 42 :: (byt t ++ [a1]) := by rw [← hv, byt_append, hub, hxb]; rfl
          have hvs : v.size ≤ 42 := by have := byt_len v; rw [hvb] at this; simp [byt_len] at this; omega
          obtain ⟨cap, W2, B⟩ := bytes_of v (by omega) W1
          have hrun := B.run
          have hcap := B.le
          have hcapm := B.max
          have HB := Lib.hid B
          have hall : (byt t).all nmb = true := by rw [HT.out, List.all_eq_true]; intro y hy; have h5 := patL_mem hy rfl; clear hy; revert y; decide
          have hlen : (byt t).length = q := by rw [HT.out, patL_len]
          have hal := alias_pat (byt t) (a1) hnb hall
          rw [← hvb, hlen] at hal
          have hno : aliasF (byt t) = ([], 0, false) := by
            refine alias_none _ ?_
            intro h
            rw [List.all_eq_true] at hall
            have := hall 42 (List.mem_of_mem_head? (by rw [h]; rfl))
            revert this; decide
          have HNO := Lib.hid hno
          clear hub hxb hvb B hno hall hlen hx
          by_cases h1 : 1 ≤ q
          · have d1 : (1 : Int) ≤ (q : Int) := by omega
            by_cases h2 : q ≤ 32
            · have d2 : (q : Int) ≤ 32 := by omega
              rw [if_pos ⟨h1, h2⟩] at hal
              have HAL := Lib.hid hal
              clear hal
              go_wp2_with fail
              refine (alias_txt HB.out HB1.out (by omega) (byt v) rfl).mono ?_
              rintro e W3 ⟨s', hs', rfl, hb3⟩
              rw [HAL.out] at hs' ⊢
              obtain rfl : t = s' := (byt_inj hs').symm
              simp only [show ((q + 1 : Nat) : Int) = (q : Int) + 1 from by omega]
              have HB3 := Lib.hid hb3
              clear hs' hb3 HAL hrun hrs HB
              obtain ⟨cap2, W4, B2⟩ := bytes_of t (by omega) W3
              have hrun2 := B2.run
              have hcap2 := B2.le
              have hcapm2 := B2.max
              have HB2 := Lib.hid B2
              clear B2
              go_wp2_with fail
              refine (alias_txt HB2.out HB3.out (by omega) (byt t) rfl).mono ?_
              rintro e W5 ⟨s', hs', rfl, hb5⟩
              rw [HNO.out]
              have HB5 := Lib.hid hb5
              clear hs' hb5 hrun2
              go_wp2_with (go_at_call 10; refine (wakes_at HB5.out).mono ?_; rintro e w9 ⟨rfl, hb9⟩)
              go_ret
              exact ⟨rfl, hb9⟩
            · have d2 : decide ((q : Int) ≤ 32) = false := decide_eq_false (by omega)
              rw [if_neg (fun h => h2 h.2)] at hal
              have HAL := Lib.hid hal
              clear hal
              go_wp2_with fail
              refine (alias_txt HB.out HB1.out (by omega) (byt v) rfl).mono ?_
              rintro e W3 ⟨s', hs', rfl, hb3⟩
              rw [HAL.out] at hs' ⊢
              obtain rfl : s' = ⟨#[]⟩ := byt_inj hs'
              simp only [show ((0 : Nat) : Int) = 0 from rfl]
              have HB3 := Lib.hid hb3
              clear hs' hb3 HAL hrun hrs HB
              obtain ⟨cap2, W4, B2⟩ := bytes_of t (by omega) W3
              have hrun2 := B2.run
              have hcap2 := B2.le
              have hcapm2 := B2.max
              have HB2 := Lib.hid B2
              clear B2
              go_wp2_with fail
              refine (alias_txt HB2.out HB3.out (by omega) (byt t) rfl).mono ?_
              rintro e W5 ⟨s', hs', rfl, hb5⟩
              rw [HNO.out]
              have HB5 := Lib.hid hb5
              clear hs' hb5 hrun2
              go_wp2_with (go_at_call 10; refine (wakes_at HB5.out).mono ?_; rintro e w9 ⟨rfl, hb9⟩)
              go_ret
              exact ⟨rfl, hb9⟩
          · have d1 : decide ((1 : Int) ≤ (q : Int)) = false := decide_eq_false (by omega)
            rw [if_neg (fun h => h1 h.1)] at hal
            have HAL := Lib.hid hal
            clear hal
            go_wp2_with fail
            refine (alias_txt HB.out HB1.out (by omega) (byt v) rfl).mono ?_
            rintro e W3 ⟨s', hs', rfl, hb3⟩
            rw [HAL.out] at hs' ⊢
            obtain rfl : s' = ⟨#[]⟩ := byt_inj hs'
            simp only [show ((0 : Nat) : Int) = 0 from rfl]
            have HB3 := Lib.hid hb3
            clear hs' hb3 HAL hrun hrs HB
            obtain ⟨cap2, W4, B2⟩ := bytes_of t (by omega) W3
            have hrun2 := B2.run
            have hcap2 := B2.le
            have hcapm2 := B2.max
            have HB2 := Lib.hid B2
            clear B2
            go_wp2_with fail
            refine (alias_txt HB2.out HB3.out (by omega) (byt t) rfl).mono ?_
            rintro e W5 ⟨s', hs', rfl, hb5⟩
            rw [HNO.out]
            have HB5 := Lib.hid hb5
            clear hs' hb5 hrun2
            go_wp2_with (go_at_call 10; refine (wakes_at HB5.out).mono ?_; rintro e w9 ⟨rfl, hb9⟩)
            go_ret
            exact ⟨rfl, hb9⟩

/-! ### THE ROW's STEP: WRITTEN OUT: LEAVE IT -/
set_option maxRecDepth 100000 in
theorem lifted (os : Os) (started : os.Started) (H : Type) (enc : TypeId × Value → H) :
    ReturnsInHanded {} Try.checked os 4 .any (Rows.propsAliasesSpec.pre6 enc Try.prog Try.f4 Rows.propsAliasesRow.domain false) (Rows.propsAliasesSpec.post enc Try.prog Try.f4 false true false false) := by
  refine returnsInHanded_of_change (C := Try.checked) own started (by kernel_rfl) Try.func4
    (ChangeSpec.witness6 (enc := enc) (C := Try.checked) false ⟨#[], #[.int .i64 0, .int .u8 0], []⟩ 8 (by kernel_rfl) (by kernel_rfl) (by kernel_rfl) (by kernel_rfl)) ?_
  intro W base args ds gs before hval0 hW hcnd _
  have hval : ∀ (j : Nat) t v, Try.f4.params[j]? = some t → args[j]? = some v → Value.okWide Try.prog W .any base t v := hval0
  have hW' := hW
  obtain ⟨p, q, hA0, hV, rfl, hfz, hnd⟩ := hW
  have hA : DataW.TrodAll enc Try.prog W 0 (fun _ => true) true Try.f4.params.toList args.toList ds p := hA0
  rw [Try.params4] at hA hval
  obtain ⟨v0, vs0, d0, ds0, p0, q0, hargs, rfl, rfl, h0, r0⟩ := trodAll_cons hA
  obtain ⟨v1, vs1, d1, ds1, p1, q1, rfl, rfl, rfl, h1, r1⟩ := trodAll_cons r0
  obtain ⟨rfl, rfl, rfl⟩ := trodAll_nil r1
  obtain rfl : args = #[v0, v1] := by cases args; simp_all
  obtain ⟨rfl, rfl⟩ := trodVars_none hV
  obtain ⟨a0, rfl, rfl, rfl, w0⟩ := open_int Try.underlying3 (hval 0 3 v0 rfl rfl) h0
  obtain ⟨a1, rfl, rfl, rfl, w1⟩ := open_int Try.underlying5 (hval 1 5 v1 rfl rfl) h1
  clear hA0 hval0
  refine (walk a0 a1 w0 w1 W).mono fun e W' ⟨he, hg⟩ => ?_
  subst he
  exact ⟨_, rfl, _, _, _, [], [], [], hW', trodAll_mk1 (shut_bool Try.underlying4 _), (trodAll_cons_mk (shut_int Try.underlying3 w0) (trodAll_cons_mk (shut_int Try.underlying5 w1) trodAll_mk0)), rfl, hg.frame _, fun h => by cases h⟩

theorem over : Rows.propsAliasesRow.holds Try.pinned (OpenSpec.ofChange Rows.propsAliasesSpec) :=
  OpenClaim.holds_of_wide 4 Try.f4 rfl rfl rfl rfl rfl rfl rfl ⟨rfl, rfl, rfl, rfl, rfl⟩ rfl rfl rfl rfl rfl (by kernel_rfl) Try.func4 (by kernel_rfl)
    (of_decide_eq_true (by kernel_rfl)) (by unfold Func.isWrapper; first | (rw [if_pos (by decide +kernel)]; kernel_rfl) | (rw [if_neg (by decide +kernel)]; exact ⟨rfl, rfl⟩))
    (fun os started H enc _ => lifted os started H enc)

/-- ████ THE STATEMENT ████ -/
theorem proved : Rows.PropsAliasesSaid :=
  over
#print axioms proved
end Go.Proofs.Ytpmikhhnnjhiaaa.propsAliases
