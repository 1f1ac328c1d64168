/-
  Proved: the law 'scholium/scholiumlaw10.PropsLong' returns true for every input, and every argument reads as it did before. No conditions.
-/
import Derived.Test.YtpmikhhnnjhiaaaRows
import Derived.Test.YtpmikhhnnjhiaaaPrFacts
import Derived.Test.YtpmikhhnnjhiaaaKeep
import Derived.WalkKit
import Derived.ProofKit
import Derived.OpenShut
import Derived.ShutString
namespace Go.Proofs.Ytpmikhhnnjhiaaa.propsLong
open Go.ChangeShapes Go.WideShapes Go.ChangeAt Go.RowKit
open Go.ChangeMaps (open_string shut_string)
set_option linter.unusedVariables false      -- a walk need not use every 'w<i>' (that an integer argument fits its kind)

theorem own : ownKnob Try.prog.godebug = none := by kernel_rfl

def patZ : List Int := [97, 90, 48, 45, 95]
theorem patZ_at (k : Nat) : byt (((⟨#[97, 90, 48, 45, 95]⟩ : ByteArray).extract (k % 5) 5).extract 0 1) = [patZ.getD (k % 5) 0] := by
  have h : ∀ j : Fin 5, byt (((⟨#[97, 90, 48, 45, 95]⟩ : ByteArray).extract j.val 5).extract 0 1) = [patZ.getD j.val 0] := by decide +kernel
  exact h ⟨k % 5, Nat.mod_lt _ (by omega)⟩
set_option maxRecDepth 100000
set_option maxHeartbeats 4000000 in
theorem walk (a0 : Int) (a1 : Bool) (a2 : Bool) (w0 : (Lit.int .i64 a0).wf = true) (w : World) :
    Calls Try.prog 7 #[.int .i64 a0, .bool a1, .bool a2] w fun e w' => e = .returned (.bool true) ∧ Below w.heap.size w w' := by
  have hb0 := bounds_i64 w0
  have B0 : Hid (Below w.heap.size w w) := Below.refl _ _
  go_enter Try.func7, Try.ntmps7
  go_wp2_with fail
  refine (within_nat a0 5 _ (by omega) (by omega) (by omega)).mono ?_
  rintro e w' ⟨q, hq, rfl, rfl⟩
  go_wp2_with fail
  go_loop [7, 8] (fun s i => ∃ (k : Nat) (t : ByteArray), k ≤ 30 + q ∧ t.size ≤ k ∧ s = .string t ∧ i = .int .i64 (k : Int) ∧ Hid (byt t = patL patZ k)) (fun _ i => 40 - (intOf i).toNat)
  case atStart => exact ⟨0, ⟨#[]⟩, by omega, by decide, rfl, rfl, rfl⟩
  case round =>
    obtain ⟨k, t, hk, hts, rfl, rfl, HT⟩ := hrel
    by_cases hlt : k < 30 + q
    · have hd : (k : Int) < 30 + (q : Int) := by omega
      have h5 : k % 5 < 5 := Nat.mod_lt _ (by omega)
      go_wp2_with fail
      go_round
      case rel =>
        have hn : byt (t ++ ((⟨#[97, 90, 48, 45, 95]⟩ : ByteArray).extract (k % 5) 5).extract 0 1) = patL patZ (k + 1) := by rw [byt_append, HT.out, patZ_at, patL_succ]
        exact ⟨k + 1, _, by omega, by rw [← byt_len, hn, patL_len]; omega, rfl, by go_num, hn⟩
      case measure => simp [intOf]; omega
    · obtain rfl : k = 30 + q := by omega
      have hts' : t.size ≤ 40 := by omega
      clear hlt hk hts
      cases a1 with
      | false =>
        obtain ⟨u, hu⟩ : ∃ u, (⟨#[38]⟩ : ByteArray) ++ t = u := ⟨_, rfl⟩
        have hub : byt u = 38 :: byt t := by rw [← hu, byt_append]; rfl
        have hus : u.size ≤ 42 := by have := byt_len u; rw [hub] at this; simp [byt_len] at this; omega
        obtain ⟨v, hv⟩ : ∃ v, u ++ (⟨#[32, 120]⟩ : ByteArray) = v := ⟨_, rfl⟩
        have hvb : byt v = byt u ++ 32 :: [120] := by rw [← hv, byt_append]; rfl
        have hvs : v.size ≤ 44 := by have := byt_len v; rw [hvb] at this; simp [byt_len] at this; omega
        obtain ⟨cap, W1, B⟩ := bytes_of v (by omega) w
        have hrun := B.run
        have hcap := B.le
        have hcapm := B.max
        have HB := Lib.hid B
        have hnm : nameF (byt t) = (decide (1 ≤ 30 + q) && decide (30 + q ≤ 32)) := by rw [HT.out]; exact patL_name patZ rfl rfl _
        have hb32 : ∀ z ∈ byt u, z ≠ 32 := by
          rw [hub]
          intro z hz
          have h3 := name_no32 (l := byt t) (by rw [HT.out, List.all_eq_true]; intro z hz; have h5 := patL_mem hz rfl; clear hz; revert z; decide)
          simp at hz
          rcases hz with hz | hz
          · omega
          · exact h3 z hz
        have hbeg : begF (byt u) = true := by rw [hub]; rfl
        obtain ⟨tt, htt⟩ : ∃ tt, byt t = 97 :: tt := by rw [HT.out]; exact patL_head patZ (by decide) _ (by omega)
        have hval : validF (byt u) = false := by rw [hub]; rfl
        have hneT : t.toList.isEmpty = false := by rw [empty_byt, htt]; rfl
        have hneU : u.toList.isEmpty = false := by rw [empty_byt, hub]; rfl
        have eT : (([] : List UInt8) == t.toList) = false := by
          rw [beq_eq_false_iff_ne]; intro h; rw [← h] at hneT; cases hneT
        have eU : (([] : List UInt8) == u.toList) = false := by
          rw [beq_eq_false_iff_ne]; intro h; rw [← h] at hneU; cases hneU
        by_cases hq2 : q ≤ 2
        · have hdn : (30 : Int) + (q : Int) ≤ 32 := by omega
          have hnm1 : nameF (byt t) = true := by rw [hnm]; simp; omega
          have HTK : Hid (takeP (byt v) = ([], byt t, u.size, true)) := by
            show _ = _
            have hw : withF [] [] (byt u) = ([], byt t, true) := by rw [hub]; exact with_anchor _ _ hnm1
            have := (take_one (byt u) hbeg hb32 _ _ hw [120] ⟨rfl, by decide⟩).1
            rw [hvb, this, byt_len]
          have VC := Lib.hid (fun W => validTag_any u (by unfold maxLen; omega) W)
          rw [hval] at VC
          clear hub hvb B hnm hb32 hbeg htt hval hnm1
          go_wp2_with fail
          refine (take_txt HB.out B0.out (by omega) (byt v) rfl).mono ?_
          rintro e W2 ⟨t', a', ht', ha', rfl, hb2⟩
          rw [HTK.out] at ht' ha' ⊢
          obtain rfl : t' = ⟨#[]⟩ := byt_inj ht'
          obtain rfl : a' = t := byt_inj ha'
          have HB2 := Lib.hid hb2
          clear ht' ha' hb2 HTK hrun
          go_wp2_with (first | (go_at_call 17; refine (VC.out _).mono ?_; rintro e w' ⟨rfl, rfl⟩) | (go_at_call 10; refine (wakes_at (HB2.out.alloc HB2.out.size _)).mono ?_; rintro e w9 ⟨rfl, hb9⟩))
          go_ret
          exact ⟨rfl, hb9⟩
        · have hdn : decide ((30 : Int) + (q : Int) ≤ 32) = false := decide_eq_false (by omega)
          have hnm1 : nameF (byt t) = false := by rw [hnm, decide_eq_false (show ¬ 30 + q ≤ 32 by omega), Bool.and_false]
          have HTK : Hid (takeP (byt v) = ([], [], 0, false)) := by
            show _ = _
            have hw : (withF [] [] (byt u)).2.2 = false := by rw [hub]; exact with_anchorBad _ _ hnm1
            rw [hvb]
            exact take_oneBad (byt u) hbeg hb32 hw _ (.inr rfl)
          clear hub hvb B hnm hb32 hbeg htt hval hnm1
          go_wp2_with fail
          refine (take_txt HB.out B0.out (by omega) (byt v) rfl).mono ?_
          rintro e W2 ⟨t', a', ht', ha', rfl, hb2⟩
          rw [HTK.out] at ht' ha' ⊢
          obtain rfl : t' = ⟨#[]⟩ := byt_inj ht'
          obtain rfl : a' = ⟨#[]⟩ := byt_inj ha'
          have HB2 := Lib.hid hb2
          clear ht' ha' hb2 HTK hrun
          simp only [show ((0 : Nat) : Int) = 0 from rfl]
          go_wp2_with (first | (go_at_call 10; refine (wakes_at (HB2.out.alloc HB2.out.size _)).mono ?_; rintro e w9 ⟨rfl, hb9⟩))
          go_ret
          exact ⟨rfl, hb9⟩
      | true =>
        cases a2 with
        | false =>
          obtain ⟨u, hu⟩ : ∃ u, (⟨#[33]⟩ : ByteArray) ++ t = u := ⟨_, rfl⟩
          have hub : byt u = 33 :: byt t := by rw [← hu, byt_append]; rfl
          have hus : u.size ≤ 42 := by have := byt_len u; rw [hub] at this; simp [byt_len] at this; omega
          obtain ⟨v, hv⟩ : ∃ v, u ++ (⟨#[32, 120]⟩ : ByteArray) = v := ⟨_, rfl⟩
          have hvb : byt v = byt u ++ 32 :: [120] := by rw [← hv, byt_append]; rfl
          have hvs : v.size ≤ 44 := by have := byt_len v; rw [hvb] at this; simp [byt_len] at this; omega
          obtain ⟨cap, W1, B⟩ := bytes_of v (by omega) w
          have hrun := B.run
          have hcap := B.le
          have hcapm := B.max
          have HB := Lib.hid B
          have hnm : nameF (byt t) = (decide (1 ≤ 30 + q) && decide (30 + q ≤ 32)) := by rw [HT.out]; exact patL_name patZ rfl rfl _
          have hb32 : ∀ z ∈ byt u, z ≠ 32 := by
            rw [hub]
            intro z hz
            have h3 := name_no32 (l := byt t) (by rw [HT.out, List.all_eq_true]; intro z hz; have h5 := patL_mem hz rfl; clear hz; revert z; decide)
            simp at hz
            rcases hz with hz | hz
            · omega
            · exact h3 z hz
          have hbeg : begF (byt u) = true := by rw [hub]; rfl
          obtain ⟨tt, htt⟩ : ∃ tt, byt t = 97 :: tt := by rw [HT.out]; exact patL_head patZ (by decide) _ (by omega)
          have hval : validF (byt u) = nameF (byt t) := by rw [hub, htt]; exact valid_one 97 tt (by decide)
          have hneT : t.toList.isEmpty = false := by rw [empty_byt, htt]; rfl
          have hneU : u.toList.isEmpty = false := by rw [empty_byt, hub]; rfl
          have eT : (([] : List UInt8) == t.toList) = false := by
            rw [beq_eq_false_iff_ne]; intro h; rw [← h] at hneT; cases hneT
          have eU : (([] : List UInt8) == u.toList) = false := by
            rw [beq_eq_false_iff_ne]; intro h; rw [← h] at hneU; cases hneU
          by_cases hq2 : q ≤ 2
          · have hdn : (30 : Int) + (q : Int) ≤ 32 := by omega
            have hnm1 : nameF (byt t) = true := by rw [hnm]; simp; omega
            have HTK : Hid (takeP (byt v) = (byt u, [], u.size, true)) := by
              show _ = _
              have hw : withF [] [] (byt u) = (byt u, [], true) := by have h := with_tag (byt t) [] (by rw [show 33 :: byt t = byt u from hub.symm, hval, hnm1]); rw [show 33 :: byt t = byt u from hub.symm] at h; exact h
              have := (take_one (byt u) hbeg hb32 _ _ hw [120] ⟨rfl, by decide⟩).1
              rw [hvb, this, byt_len]
            have VC := Lib.hid (fun W => validTag_any u (by unfold maxLen; omega) W)
            rw [hval, hnm1] at VC
            clear hub hvb B hnm hb32 hbeg htt hval hnm1
            go_wp2_with fail
            refine (take_txt HB.out B0.out (by omega) (byt v) rfl).mono ?_
            rintro e W2 ⟨t', a', ht', ha', rfl, hb2⟩
            rw [HTK.out] at ht' ha' ⊢
            obtain rfl : t' = u := byt_inj ht'
            obtain rfl : a' = ⟨#[]⟩ := byt_inj ha'
            have HB2 := Lib.hid hb2
            clear ht' ha' hb2 HTK hrun
            go_wp2_with (first | (go_at_call 17; refine (VC.out _).mono ?_; rintro e w' ⟨rfl, rfl⟩) | (go_at_call 10; refine (wakes_at (HB2.out.alloc HB2.out.size _)).mono ?_; rintro e w9 ⟨rfl, hb9⟩))
            go_ret
            exact ⟨rfl, hb9⟩
          · have hdn : decide ((30 : Int) + (q : Int) ≤ 32) = false := decide_eq_false (by omega)
            have hnm1 : nameF (byt t) = false := by rw [hnm, decide_eq_false (show ¬ 30 + q ≤ 32 by omega), Bool.and_false]
            have HTK : Hid (takeP (byt v) = ([], [], 0, false)) := by
              show _ = _
              have hw : (withF [] [] (byt u)).2.2 = false := by rw [hub]; exact with_tagBad _ _ (by rw [← hub, hval, hnm1])
              rw [hvb]
              exact take_oneBad (byt u) hbeg hb32 hw _ (.inr rfl)
            clear hub hvb B hnm hb32 hbeg htt hval hnm1
            go_wp2_with fail
            refine (take_txt HB.out B0.out (by omega) (byt v) rfl).mono ?_
            rintro e W2 ⟨t', a', ht', ha', rfl, hb2⟩
            rw [HTK.out] at ht' ha' ⊢
            obtain rfl : t' = ⟨#[]⟩ := byt_inj ht'
            obtain rfl : a' = ⟨#[]⟩ := byt_inj ha'
            have HB2 := Lib.hid hb2
            clear ht' ha' hb2 HTK hrun
            simp only [show ((0 : Nat) : Int) = 0 from rfl]
            go_wp2_with (first | (go_at_call 10; refine (wakes_at (HB2.out.alloc HB2.out.size _)).mono ?_; rintro e w9 ⟨rfl, hb9⟩))
            go_ret
            exact ⟨rfl, hb9⟩
        | true =>
          obtain ⟨u, hu⟩ : ∃ u, (⟨#[33, 33]⟩ : ByteArray) ++ t = u := ⟨_, rfl⟩
          have hub : byt u = 33 :: 33 :: byt t := by rw [← hu, byt_append]; rfl
          have hus : u.size ≤ 42 := by have := byt_len u; rw [hub] at this; simp [byt_len] at this; omega
          obtain ⟨v, hv⟩ : ∃ v, u ++ (⟨#[32, 120]⟩ : ByteArray) = v := ⟨_, rfl⟩
          have hvb : byt v = byt u ++ 32 :: [120] := by rw [← hv, byt_append]; rfl
          have hvs : v.size ≤ 44 := by have := byt_len v; rw [hvb] at this; simp [byt_len] at this; omega
          obtain ⟨cap, W1, B⟩ := bytes_of v (by omega) w
          have hrun := B.run
          have hcap := B.le
          have hcapm := B.max
          have HB := Lib.hid B
          have hnm : nameF (byt t) = (decide (1 ≤ 30 + q) && decide (30 + q ≤ 32)) := by rw [HT.out]; exact patL_name patZ rfl rfl _
          have hb32 : ∀ z ∈ byt u, z ≠ 32 := by
            rw [hub]
            intro z hz
            have h3 := name_no32 (l := byt t) (by rw [HT.out, List.all_eq_true]; intro z hz; have h5 := patL_mem hz rfl; clear hz; revert z; decide)
            simp at hz
            rcases hz with hz | hz
            · omega
            · exact h3 z hz
          have hbeg : begF (byt u) = true := by rw [hub]; rfl
          obtain ⟨tt, htt⟩ : ∃ tt, byt t = 97 :: tt := by rw [HT.out]; exact patL_head patZ (by decide) _ (by omega)
          have hval : validF (byt u) = nameF (byt t) := by rw [hub, htt]; exact valid_two 97 tt
          have hneT : t.toList.isEmpty = false := by rw [empty_byt, htt]; rfl
          have hneU : u.toList.isEmpty = false := by rw [empty_byt, hub]; rfl
          have eT : (([] : List UInt8) == t.toList) = false := by
            rw [beq_eq_false_iff_ne]; intro h; rw [← h] at hneT; cases hneT
          have eU : (([] : List UInt8) == u.toList) = false := by
            rw [beq_eq_false_iff_ne]; intro h; rw [← h] at hneU; cases hneU
          by_cases hq2 : q ≤ 2
          · have hdn : (30 : Int) + (q : Int) ≤ 32 := by omega
            have hnm1 : nameF (byt t) = true := by rw [hnm]; simp; omega
            have HTK : Hid (takeP (byt v) = (byt u, [], u.size, true)) := by
              show _ = _
              have hw : withF [] [] (byt u) = (byt u, [], true) := by have h := with_tag (33 :: byt t) [] (by rw [show 33 :: 33 :: byt t = byt u from hub.symm, hval, hnm1]); rw [show 33 :: 33 :: byt t = byt u from hub.symm] at h; exact h
              have := (take_one (byt u) hbeg hb32 _ _ hw [120] ⟨rfl, by decide⟩).1
              rw [hvb, this, byt_len]
            have VC := Lib.hid (fun W => validTag_any u (by unfold maxLen; omega) W)
            rw [hval, hnm1] at VC
            clear hub hvb B hnm hb32 hbeg htt hval hnm1
            go_wp2_with fail
            refine (take_txt HB.out B0.out (by omega) (byt v) rfl).mono ?_
            rintro e W2 ⟨t', a', ht', ha', rfl, hb2⟩
            rw [HTK.out] at ht' ha' ⊢
            obtain rfl : t' = u := byt_inj ht'
            obtain rfl : a' = ⟨#[]⟩ := byt_inj ha'
            have HB2 := Lib.hid hb2
            clear ht' ha' hb2 HTK hrun
            go_wp2_with (first | (go_at_call 17; refine (VC.out _).mono ?_; rintro e w' ⟨rfl, rfl⟩) | (go_at_call 10; refine (wakes_at (HB2.out.alloc HB2.out.size _)).mono ?_; rintro e w9 ⟨rfl, hb9⟩))
            go_ret
            exact ⟨rfl, hb9⟩
          · have hdn : decide ((30 : Int) + (q : Int) ≤ 32) = false := decide_eq_false (by omega)
            have hnm1 : nameF (byt t) = false := by rw [hnm, decide_eq_false (show ¬ 30 + q ≤ 32 by omega), Bool.and_false]
            have HTK : Hid (takeP (byt v) = ([], [], 0, false)) := by
              show _ = _
              have hw : (withF [] [] (byt u)).2.2 = false := by rw [hub]; exact with_tagBad _ _ (by rw [← hub, hval, hnm1])
              rw [hvb]
              exact take_oneBad (byt u) hbeg hb32 hw _ (.inr rfl)
            clear hub hvb B hnm hb32 hbeg htt hval hnm1
            go_wp2_with fail
            refine (take_txt HB.out B0.out (by omega) (byt v) rfl).mono ?_
            rintro e W2 ⟨t', a', ht', ha', rfl, hb2⟩
            rw [HTK.out] at ht' ha' ⊢
            obtain rfl : t' = ⟨#[]⟩ := byt_inj ht'
            obtain rfl : a' = ⟨#[]⟩ := byt_inj ha'
            have HB2 := Lib.hid hb2
            clear ht' ha' hb2 HTK hrun
            simp only [show ((0 : Nat) : Int) = 0 from rfl]
            go_wp2_with (first | (go_at_call 10; refine (wakes_at (HB2.out.alloc HB2.out.size _)).mono ?_; rintro e w9 ⟨rfl, hb9⟩))
            go_ret
            exact ⟨rfl, hb9⟩

/-! ### THE ROW's STEP: WRITTEN OUT: LEAVE IT -/
set_option maxRecDepth 100000 in
theorem lifted (os : Os) (started : os.Started) (H : Type) (enc : TypeId × Value → H) :
    ReturnsInHanded {} Try.checked os 7 .any (Rows.propsLongSpec.pre6 enc Try.prog Try.f7 Rows.propsLongRow.domain false) (Rows.propsLongSpec.post enc Try.prog Try.f7 false true false false) := by
  refine returnsInHanded_of_change (C := Try.checked) own started (by kernel_rfl) Try.func7
    (ChangeSpec.witness6 (enc := enc) (C := Try.checked) false ⟨#[], #[.int .i64 0, .bool false, .bool false], []⟩ 8 (by kernel_rfl) (by kernel_rfl) (by kernel_rfl) (by kernel_rfl)) ?_
  intro W base args ds gs before hval0 hW hcnd _
  have hval : ∀ (j : Nat) t v, Try.f7.params[j]? = some t → args[j]? = some v → Value.okWide Try.prog W .any base t v := hval0
  have hW' := hW
  obtain ⟨p, q, hA0, hV, rfl, hfz, hnd⟩ := hW
  have hA : DataW.TrodAll enc Try.prog W 0 (fun _ => true) true Try.f7.params.toList args.toList ds p := hA0
  rw [Try.params7] at hA hval
  obtain ⟨v0, vs0, d0, ds0, p0, q0, hargs, rfl, rfl, h0, r0⟩ := trodAll_cons hA
  obtain ⟨v1, vs1, d1, ds1, p1, q1, rfl, rfl, rfl, h1, r1⟩ := trodAll_cons r0
  obtain ⟨v2, vs2, d2, ds2, p2, q2, rfl, rfl, rfl, h2, r2⟩ := trodAll_cons r1
  obtain ⟨rfl, rfl, rfl⟩ := trodAll_nil r2
  obtain rfl : args = #[v0, v1, v2] := by cases args; simp_all
  obtain ⟨rfl, rfl⟩ := trodVars_none hV
  obtain ⟨a0, rfl, rfl, rfl, w0⟩ := open_int Try.underlying3 (hval 0 3 v0 rfl rfl) h0
  obtain ⟨a1, rfl, rfl, rfl⟩ := open_bool Try.underlying4 (hval 1 4 v1 rfl rfl) h1
  obtain ⟨a2, rfl, rfl, rfl⟩ := open_bool Try.underlying4 (hval 2 4 v2 rfl rfl) h2
  clear hA0 hval0
  refine (walk a0 a1 a2 w0 W).mono fun e W' ⟨he, hg⟩ => ?_
  subst he
  exact ⟨_, rfl, _, _, _, [], [], [], hW', trodAll_mk1 (shut_bool Try.underlying4 _), (trodAll_cons_mk (shut_int Try.underlying3 w0) (trodAll_cons_mk (shut_bool Try.underlying4 _) (trodAll_cons_mk (shut_bool Try.underlying4 _) trodAll_mk0))), rfl, hg.frame _, fun h => by cases h⟩

theorem over : Rows.propsLongRow.holds Try.pinned (OpenSpec.ofChange Rows.propsLongSpec) :=
  OpenClaim.holds_of_wide 7 Try.f7 rfl rfl rfl rfl rfl rfl rfl ⟨rfl, rfl, rfl, rfl, rfl⟩ rfl rfl rfl rfl rfl (by kernel_rfl) Try.func7 (by kernel_rfl)
    (of_decide_eq_true (by kernel_rfl)) (by unfold Func.isWrapper; first | (rw [if_pos (by decide +kernel)]; kernel_rfl) | (rw [if_neg (by decide +kernel)]; exact ⟨rfl, rfl⟩))
    (fun os started H enc _ => lifted os started H enc)

/-- ████ THE STATEMENT ████ -/
theorem proved : Rows.PropsLongSaid :=
  over
#print axioms proved
end Go.Proofs.Ytpmikhhnnjhiaaa.propsLong
