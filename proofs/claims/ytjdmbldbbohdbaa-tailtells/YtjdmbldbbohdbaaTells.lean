/-
  Proved: the law 'scholium/scholiumlaw11.TailTells' returns true for every input, and every argument reads as it did before. No conditions.
-/
import Derived.Test.YtjdmbldbbohdbaaRows
import Derived.Test.YtjdmbldbbohdbaaTlLaw
import Derived.Test.YtjdmbldbbohdbaaKeep
import Derived.WalkKit
import Derived.ProofKit
import Derived.OpenShut
import Derived.ShutString
namespace Go.Proofs.Ytjdmbldbbohdbaa.tailTells
open Go.ChangeShapes Go.WideShapes Go.ChangeAt Go.RowKit
open Go.ChangeMaps (open_string shut_string)
set_option linter.unusedVariables false      -- a walk need not use every 'w<i>' (that an integer argument fits its kind)

theorem own : ownKnob Try.prog.godebug = none := by kernel_rfl

set_option maxHeartbeats 4000000 in
set_option maxRecDepth 100000 in
theorem walk (a0 : ByteArray) (a1 : Int) (w0 : a0.size ≤ maxLen) (w1 : (Lit.int .i64 a1).wf = true) (w : World) :
    Calls Try.prog 5 #[.string a0, .int .i64 a1] w fun e w' => e = .returned (.bool true) ∧ Below w.heap.size w w' := by
  have hb1 := bounds_i64 w1
  go_enter Try.func5, Try.ntmps5
  go_wp2_with fail
  refine (text_any a0 40 w (by omega) w0).mono ?_
  rintro e w' ⟨t, _, ht, rfl, rfl⟩
  clear w0
  go_wp2_with fail
  refine (within_nat a1 10 _ (by omega) (by omega) (by omega)).mono ?_
  rintro e w' ⟨k, hk, rfl, rfl⟩
  obtain ⟨gl, hgl⟩ : ∃ g, w.heap.size = g := ⟨_, rfl⟩
  obtain ⟨W0, hW0⟩ : ∃ V, w.alloc (.cells (headL.map Value.string).toArray 9) = V := ⟨_, rfl⟩
  obtain ⟨d, hd, hds⟩ := headL_at k hk
  have HB0 : Hid (Below w.heap.size w W0) := by show Below _ _ _; rw [← hW0]; exact (Below.refl _ _).alloc (Nat.le_refl _) _
  have hcd : W0.cell? ⟨gl, k, none⟩ = some (.string d) := by rw [← hW0, ← hgl, World.cell?_alloc_mark]; simp [hd]
  simp only [headL, List.map_cons, List.map_nil] at hW0
  rw [hW0, hgl]
  clear hW0 hgl hd
  obtain ⟨u, hu⟩ : ∃ u, d ++ t = u := ⟨_, rfl⟩
  have hus : u.size ≤ 45 := by rw [← hu, ByteArray.size_append]; omega
  obtain ⟨cap, W1, B⟩ := bytes_of u (by omega) W0
  have hrun := B.run
  have hcap := B.le
  have hcapm := B.max
  have HRB := Lib.hid B.rd
  have HB1 := Lib.hid (below_step HB0.out B.below)
  obtain ⟨g1, hg1⟩ : ∃ g, W0.heap.size = g := ⟨_, rfl⟩
  rw [hg1] at hrun HRB
  clear B HB0 hg1
  have HLN := Lib.hid (byt_len u)
  have HBY := Lib.hid (byt_byte u)
  obtain ⟨n, hn⟩ : ∃ n, u.size = n := ⟨_, rfl⟩
  rw [hn] at hrun hcap hus HLN
  go_wp2_with fail
  refine (lend_any (some ⟨g1, 0, none⟩) n cap (byt u) W1 HLN.out (by omega) HRB.out).mono ?_
  rintro e W2 ⟨rfl, hown, hb2⟩
  rw [HLN.out]
  obtain ⟨g2, hg2⟩ : ∃ g, W1.heap.size = g := ⟨_, rfl⟩
  rw [hg2] at hown ⊢
  have HOWN := Lib.hid hown
  have HB2 := Lib.hid (below_step HB1.out hb2)
  have HRB2 := Lib.hid (HRB.out.below hb2)
  clear hown hb2 hg2 HRB HB1 hrun hcd hu hds
  go_wp2_with fail
  refine (comment_any (some ⟨g2, 0, none⟩) n (n + 3) (byt u) W2 HLN.out (by omega) (by omega) (lnd_rd HOWN.out)).mono ?_
  rintro e w' ⟨rfl, rfl⟩
  obtain ⟨m, hm⟩ : ∃ m, (if cmtF (byt u) then (blkF (byt u) : Int) else 0) = m := ⟨_, rfl⟩
  obtain ⟨ok, hok⟩ : ∃ m, cmtF (byt u) = m := ⟨_, rfl⟩
  rw [hm, hok]
  have HM := Lib.hid hm
  have HK := Lib.hid hok
  clear hm hok
  go_wp2_with fail
  refine (refComment_any (some ⟨g1, 0, none⟩) n cap (byt u) W2 HLN.out (by omega) (by omega) HRB2.out).mono ?_
  rintro e w' ⟨rfl, rfl⟩
  rw [HM.out, HK.out]
  clear HM HK
  go_wp2_with fail
  refine (rest_any (some ⟨g2, 0, none⟩) n (n + 3) (byt u) W2 HLN.out (by omega) (by omega) (by omega) (fun h => by cases h) (lnd_rd HOWN.out)).mono ?_
  rintro e W3 ⟨A3, cap3, rfl, hc3, hc3m, hA3, hrd3, hb3, ho3⟩
  have hkl := blk_len (byt u)
  rw [HLN.out] at hkl
  have hdl : ((byt u).drop (blkF (byt u))).length = n - blkF (byt u) := by rw [List.length_drop, HLN.out]
  obtain ⟨q, hq⟩ : ∃ q, blkF (byt u) = q := ⟨_, rfl⟩
  rw [hdl, hq]
  rw [hdl, hq] at hc3
  rw [hq] at hkl hrd3 ho3 hdl
  have HRD3 := Lib.hid hrd3
  have HO3 := Lib.hid ho3
  have HB3 := Lib.hid hb3
  have HRB3 := Lib.hid (HRB2.out.below hb3)
  have HQ := Lib.hid hq
  have HDL := Lib.hid hdl
  have HCM := Lib.hid hc3m
  clear hrd3 ho3 hb3 hdl hq hA3 hc3m
  go_wp2_with fail
  go_loop [12] (fun i => ∃ k : Nat, k ≤ n ∧ i = .int .i64 (k : Int) ∧ Hid (q = k + blkF ((byt u).drop k))) (fun i => n - (intOf i).toNat)
  case atStart => exact ⟨0, Nat.zero_le _, rfl, by show _ = _; rw [← HQ.out]; simp⟩
  case round =>
    obtain ⟨k, hk, rfl, HA⟩ := hrel
    by_cases hlt : k < n
    · obtain ⟨b, off, e, hc⟩ := HRB3.out.addr (by rw [HLN.out]; omega)
      injection e with e
      injection e with e1 e2
      subst e1 e2
      have ck := hc k (by rw [HLN.out]; exact hlt)
      rw [Nat.zero_add] at ck
      have hbk := blk_at (l := byt u) (k := k) (by rw [HLN.out]; exact hlt)
      have d1 : (k : Int) < (n : Int) := by omega
      generalize (byt u).getD k 0 = x at *
      by_cases h32 : x = 32
      · subst h32
        have HK : Hid (q = k + 1 + blkF ((byt u).drop (k + 1))) := by show _ = _; rw [HA.out, hbk, if_pos rfl]; omega
        clear hbk hc
        go_wp2
        go_round
        case rel => exact ⟨k + 1, by omega, by go_num, HK⟩
        case measure => simp [intOf]; omega
      · obtain rfl : q = k := by rw [HA.out, hbk, if_neg h32]; rfl
        have ds : (x == 32) = false := beq_eq_false_iff_ne.2 h32
        clear hbk hc
        obtain ⟨As, hsl, _, hsr⟩ := slice_l (some ⟨g1, 0, none⟩) n cap q (byt u) HLN.out hcap (fun h => by cases h) hkl
        have HSR := Lib.hid (hsr W3 HRB3.out)
        clear hsr
        go_wp2_with fail
        refine (sameB_any A3 As (n - q) cap3 (cap - q) _ W3 HDL.out (by omega) hc3 (by omega) HRD3.out HSR.out).mono ?_
        rintro e W4 ⟨rfl, hb4⟩
        have HO4 : Hid (cap3 = 0 ∨ ∃ g ys, A3 = some ⟨g, 0, none⟩ ∧ W2.heap.size ≤ g ∧ OwnB W4 g ((byt u).drop q ++ ys) ∧ ((byt u).drop q ++ ys).length = cap3) := by
          rcases HO3.out with h | ⟨g, ys, h1, h2, h3, h4⟩
          · exact .inl h
          · exact .inr ⟨g, ys, h1, h2, h3.below hb4, h4⟩
        have HB4 := Lib.hid (HB3.out.trans (hb4.mono HB3.out.size))
        clear hb4 hsl
        go_wp2_with fail
        refine (spoil_fresh W2.heap.size A3 (n - q) cap3 ((byt u).drop q) W4 hc3 HCM.out HO4.out).mono ?_
        rintro e W5 ⟨rfl, hb5⟩
        have HB5 := Lib.hid (HB4.out.trans hb5)
        have HRB5 := Lib.hid (HRB2.out.below HB5.out)
        have HOW5 := Lib.hid (HOWN.out.below HB5.out)
        have HBW := Lib.hid (below_step HB2.out HB5.out)
        clear hb5 HO4 HB4 HO3 HRB3 HOWN HRB2 HB3 HRD3 HSR HDL HCM HB5
        obtain ⟨cl, hcl⟩ : ∃ b, clrF (byt u) = b := ⟨_, rfl⟩
        go_wp2_with fail
        refine (clear_any (some ⟨g2, 0, none⟩) n (n + 3) (byt u) W5 HLN.out (by omega) (by omega) (lnd_rd HOW5.out) cl hcl).mono ?_
        rintro e w' ⟨rfl, rfl⟩
        go_wp2_with fail
        refine (refClear_any (some ⟨g1, 0, none⟩) n cap (byt u) W5 HLN.out (by omega) (by omega) HRB5.out cl hcl).mono ?_
        rintro e w' ⟨rfl, rfl⟩
        clear hcl
        go_wp2_with fail
        refine (mark_any (some ⟨g2, 0, none⟩) n (n + 3) (byt u) W5 HLN.out (by omega) (by omega) (fun h => by cases h) (lnd_rd HOW5.out) HBY.out).mono ?_
        rintro e W6 ⟨rfl, hb6⟩
        have HRB6 := Lib.hid (HRB5.out.below hb6)
        have HOW6 := Lib.hid (HOW5.out.below hb6)
        have HBX := Lib.hid (below_step HBW.out hb6)
        clear hb6 HRB5 HOW5 HBW
        obtain ⟨mk, hmk⟩ : ∃ b, mrkF (byt u) = b := ⟨_, rfl⟩
        rw [hmk]
        go_wp2_with fail
        refine (refMarker_any (some ⟨g1, 0, none⟩) n cap (byt u) W6 HLN.out (by omega) (by omega) (fun h => by cases h) HRB6.out HBY.out).mono ?_
        rintro e w' ⟨rfl, rfl⟩
        rw [hmk]
        clear hmk
        go_wp2_with fail
        refine (intact_any (some ⟨g1, 0, none⟩) n cap g2 (byt u) W6 HLN.out (by omega) HRB6.out HOW6.out).mono ?_
        rintro e W7 ⟨rfl, hb7⟩
        have HB7 := Lib.hid (below_step HBX.out hb7)
        clear hb7
        go_wp2_with fail
        refine (wakes_at HB7.out).mono ?_
        rintro e W8 ⟨rfl, hb8⟩
        have HB8 := Lib.hid hb8
        clear hb8
        go_wp2_with fail
        go_ret
        exact ⟨rfl, HB8.out⟩
    · obtain rfl : q = k := by rw [HA.out, blk_end (by rw [HLN.out]; omega)]; rfl
      have d1 : decide ((q : Int) < (n : Int)) = false := decide_eq_false (by omega)
      obtain ⟨As, hsl, _, hsr⟩ := slice_l (some ⟨g1, 0, none⟩) n cap q (byt u) HLN.out hcap (fun h => by cases h) hkl
      have HSR := Lib.hid (hsr W3 HRB3.out)
      clear hsr
      go_wp2_with fail
      refine (sameB_any A3 As (n - q) cap3 (cap - q) _ W3 HDL.out (by omega) hc3 (by omega) HRD3.out HSR.out).mono ?_
      rintro e W4 ⟨rfl, hb4⟩
      have HO4 : Hid (cap3 = 0 ∨ ∃ g ys, A3 = some ⟨g, 0, none⟩ ∧ W2.heap.size ≤ g ∧ OwnB W4 g ((byt u).drop q ++ ys) ∧ ((byt u).drop q ++ ys).length = cap3) := by
        rcases HO3.out with h | ⟨g, ys, h1, h2, h3, h4⟩
        · exact .inl h
        · exact .inr ⟨g, ys, h1, h2, h3.below hb4, h4⟩
      have HB4 := Lib.hid (HB3.out.trans (hb4.mono HB3.out.size))
      clear hb4 hsl
      go_wp2_with fail
      refine (spoil_fresh W2.heap.size A3 (n - q) cap3 ((byt u).drop q) W4 hc3 HCM.out HO4.out).mono ?_
      rintro e W5 ⟨rfl, hb5⟩
      have HB5 := Lib.hid (HB4.out.trans hb5)
      have HRB5 := Lib.hid (HRB2.out.below HB5.out)
      have HOW5 := Lib.hid (HOWN.out.below HB5.out)
      have HBW := Lib.hid (below_step HB2.out HB5.out)
      clear hb5 HO4 HB4 HO3 HRB3 HOWN HRB2 HB3 HRD3 HSR HDL HCM HB5
      obtain ⟨cl, hcl⟩ : ∃ b, clrF (byt u) = b := ⟨_, rfl⟩
      go_wp2_with fail
      refine (clear_any (some ⟨g2, 0, none⟩) n (n + 3) (byt u) W5 HLN.out (by omega) (by omega) (lnd_rd HOW5.out) cl hcl).mono ?_
      rintro e w' ⟨rfl, rfl⟩
      go_wp2_with fail
      refine (refClear_any (some ⟨g1, 0, none⟩) n cap (byt u) W5 HLN.out (by omega) (by omega) HRB5.out cl hcl).mono ?_
      rintro e w' ⟨rfl, rfl⟩
      clear hcl
      go_wp2_with fail
      refine (mark_any (some ⟨g2, 0, none⟩) n (n + 3) (byt u) W5 HLN.out (by omega) (by omega) (fun h => by cases h) (lnd_rd HOW5.out) HBY.out).mono ?_
      rintro e W6 ⟨rfl, hb6⟩
      have HRB6 := Lib.hid (HRB5.out.below hb6)
      have HOW6 := Lib.hid (HOW5.out.below hb6)
      have HBX := Lib.hid (below_step HBW.out hb6)
      clear hb6 HRB5 HOW5 HBW
      obtain ⟨mk, hmk⟩ : ∃ b, mrkF (byt u) = b := ⟨_, rfl⟩
      rw [hmk]
      go_wp2_with fail
      refine (refMarker_any (some ⟨g1, 0, none⟩) n cap (byt u) W6 HLN.out (by omega) (by omega) (fun h => by cases h) HRB6.out HBY.out).mono ?_
      rintro e w' ⟨rfl, rfl⟩
      rw [hmk]
      clear hmk
      go_wp2_with fail
      refine (intact_any (some ⟨g1, 0, none⟩) n cap g2 (byt u) W6 HLN.out (by omega) HRB6.out HOW6.out).mono ?_
      rintro e W7 ⟨rfl, hb7⟩
      have HB7 := Lib.hid (below_step HBX.out hb7)
      clear hb7
      go_wp2_with fail
      refine (wakes_at HB7.out).mono ?_
      rintro e W8 ⟨rfl, hb8⟩
      have HB8 := Lib.hid hb8
      clear hb8
      go_wp2_with fail
      go_ret
      exact ⟨rfl, HB8.out⟩

/-! ### THE ROW's STEP: WRITTEN OUT: LEAVE IT -/
set_option maxRecDepth 100000 in
theorem lifted (os : Os) (started : os.Started) (H : Type) (enc : TypeId × Value → H) :
    ReturnsInHanded {} Try.checked os 5 .any (Rows.tailTellsSpec.pre6 enc Try.prog Try.f5 Rows.tailTellsRow.domain false) (Rows.tailTellsSpec.post enc Try.prog Try.f5 false true false false) := by
  refine returnsInHanded_of_change (C := Try.checked) own started (by kernel_rfl) Try.func5
    (ChangeSpec.witness6 (enc := enc) (C := Try.checked) false ⟨#[], #[.string ByteArray.empty, .int .i64 0], []⟩ 8 (by kernel_rfl) (by kernel_rfl) (by kernel_rfl) (by kernel_rfl)) ?_
  intro W base args ds gs before hval0 hW hcnd _
  have hval : ∀ (j : Nat) t v, Try.f5.params[j]? = some t → args[j]? = some v → Value.okWide Try.prog W .any base t v := hval0
  have hW' := hW
  obtain ⟨p, q, hA0, hV, rfl, hfz, hnd⟩ := hW
  have hA : DataW.TrodAll enc Try.prog W 0 (fun _ => true) true Try.f5.params.toList args.toList ds p := hA0
  rw [Try.params5] at hA hval
  obtain ⟨v0, vs0, d0, ds0, p0, q0, hargs, rfl, rfl, h0, r0⟩ := trodAll_cons hA
  obtain ⟨v1, vs1, d1, ds1, p1, q1, rfl, rfl, rfl, h1, r1⟩ := trodAll_cons r0
  obtain ⟨rfl, rfl, rfl⟩ := trodAll_nil r1
  obtain rfl : args = #[v0, v1] := by cases args; simp_all
  obtain ⟨rfl, rfl⟩ := trodVars_none hV
  obtain ⟨a0, rfl, rfl, rfl, w0⟩ := open_string Try.underlying9 (hval 0 9 v0 rfl rfl) h0
  obtain ⟨a1, rfl, rfl, rfl, w1⟩ := open_int Try.underlying3 (hval 1 3 v1 rfl rfl) h1
  clear hA0 hval0
  refine (walk a0 a1 w0 w1 W).mono fun e W' ⟨he, hg⟩ => ?_
  subst he
  exact ⟨_, rfl, _, _, _, [], [], [], hW', trodAll_mk1 (shut_bool Try.underlying4 _), (trodAll_cons_mk (shut_string Try.underlying9 w0) (trodAll_cons_mk (shut_int Try.underlying3 w1) trodAll_mk0)), rfl, hg.frame _, fun h => by cases h⟩

theorem over : Rows.tailTellsRow.holds Try.pinned (OpenSpec.ofChange Rows.tailTellsSpec) :=
  OpenClaim.holds_of_wide 5 Try.f5 rfl rfl rfl rfl rfl rfl rfl ⟨rfl, rfl, rfl, rfl, rfl⟩ rfl rfl rfl rfl rfl (by kernel_rfl) Try.func5 (by kernel_rfl)
    (of_decide_eq_true (by kernel_rfl)) (by unfold Func.isWrapper; first | (rw [if_pos (by decide +kernel)]; kernel_rfl) | (rw [if_neg (by decide +kernel)]; exact ⟨rfl, rfl⟩))
    (fun os started H enc _ => lifted os started H enc)

/-- ████ THE STATEMENT ████ -/
theorem proved : Rows.TailTellsSaid :=
  over
#print axioms proved
end Go.Proofs.Ytjdmbldbbohdbaa.tailTells
