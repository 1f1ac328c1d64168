/-
  Proved: the law 'scholium/scholiumlaw11.TailRests' returns true for every input, and every argument reads as it did before. No conditions.
-/
import Derived.Test.YtjdmbldbbohdbaaRows
import Derived.Test.YtjdmbldbbohdbaaTlLaw
import Derived.Test.YtjdmbldbbohdbaaKeep
import Derived.WalkKit
import Derived.ProofKit
import Derived.OpenShut
import Derived.ShutString
namespace Go.Proofs.Ytjdmbldbbohdbaa.tailRests
open Go.ChangeShapes Go.WideShapes Go.ChangeAt Go.RowKit
open Go.ChangeMaps (open_string shut_string)
set_option linter.unusedVariables false      -- a walk need not use every 'w<i>' (that an integer argument fits its kind)

theorem own : ownKnob Try.prog.godebug = none := by kernel_rfl

theorem eight_at (n : Nat) (hn : n < 8) : byt ((⟨#[32, 32, 32, 32, 32, 32, 32, 32]⟩ : ByteArray).extract 0 n) = List.replicate n 32 := by
  have h : ∀ j : Fin 8, byt ((⟨#[32, 32, 32, 32, 32, 32, 32, 32]⟩ : ByteArray).extract 0 j.val) = List.replicate j.val 32 := by decide +kernel
  exact h ⟨n, hn⟩
set_option maxHeartbeats 4000000 in
set_option maxRecDepth 100000 in
theorem walk (a0 : Int) (a1 : ByteArray) (w0 : (Lit.int .i64 a0).wf = true) (w1 : a1.size ≤ maxLen) (w : World) :
    Calls Try.prog 4 #[.int .i64 a0, .string a1] w fun e w' => e = .returned (.bool true) ∧ Below w.heap.size w w' := by
  have hb0 := bounds_i64 w0
  go_enter Try.func4, Try.ntmps4
  go_wp2_with fail
  refine (within_nat a0 8 w (by omega) (by omega) (by omega)).mono ?_
  rintro e w' ⟨n, hn, rfl, rfl⟩
  go_wp2_with fail
  refine (text_any a1 30 w (by omega) w1).mono ?_
  rintro e w' ⟨t, _, ht, rfl, rfl⟩
  clear w1
  go_wp2_with fail
  go_loop [1] (fun s => ∃ v : ByteArray, v.size ≤ 30 ∧ s = .string v) (fun s => match s with | .string v => v.size | _ => 0)
  case atStart => exact ⟨t, by omega, rfl⟩
  case round =>
    obtain ⟨v, hv, rfl⟩ := hrel
    by_cases h0 : 0 < v.size
    · have d0 : (0 : Int) < (v.size : Int) := by omega
      have hat := byt_at v 0 h0
      by_cases h32 : ((v[0].toNat : Int)) = 32
      · have e32 : ((v[0].toNat : Int) == 32) = true := beq_iff_eq.2 h32
        clear hat
        go_wp2_with fail
        exact ⟨⟨_, by rw [ByteArray.size_extract]; omega, rfl⟩, by simp only [ByteArray.size_extract]; omega⟩
      · have e32 : ((v[0].toNat : Int) == 32) = false := beq_eq_false_iff_ne.2 h32
        have HV0 : Hid (blkF (byt v) = 0) := by
          show _ = _
          cases hb : byt v with
          | nil => rfl
          | cons x l =>
            rw [hb] at hat
            injection hat with hat
            exact blk_none (by rw [hat]; exact h32)
        clear hat
        obtain ⟨z, hz⟩ : ∃ z, (⟨#[32, 32, 32, 32, 32, 32, 32, 32]⟩ : ByteArray).extract 0 n = z := ⟨_, rfl⟩
        have hzb : byt z = List.replicate n 32 := by rw [← hz]; exact eight_at n hn
        have hzs : z.size = n := by rw [← byt_len, hzb, List.length_replicate]
        obtain ⟨u, hu⟩ : ∃ u, z ++ v = u := ⟨_, rfl⟩
        have hus : u.size ≤ 38 := by rw [← hu, ByteArray.size_append]; omega
        have HU : Hid (byt u = List.replicate n 32 ++ byt v) := by show _ = _; rw [← hu, byt_append, hzb]
        have HUD : Hid ((byt u).drop (blkF (byt u)) = byt v) := by
          show _ = _
          rw [HU.out, blk_rep, HV0.out, Nat.add_zero]
          exact List.drop_left' (List.length_replicate ..)
        obtain ⟨cap, W1, B⟩ := bytes_of u (by omega) w
        have hrun := B.run
        have hcap := B.le
        have hcapm := B.max
        have HRB := Lib.hid B.rd
        have HB1 := Lib.hid B.below
        obtain ⟨g1, hg1⟩ : ∃ g, w.heap.size = g := ⟨_, rfl⟩
        rw [hg1] at hrun HRB
        clear B hg1 hzb
        have HLN := Lib.hid (byt_len u)
        have HLV := Lib.hid (byt_len v)
        have HVS := Lib.hid (strOfNums_byt v)
        obtain ⟨m, hm⟩ : ∃ n, u.size = n := ⟨_, rfl⟩
        rw [hm] at hrun hcap hus HLN
        go_wp2_with fail
        refine (lend_any (some ⟨g1, 0, none⟩) m cap (byt u) W1 HLN.out (by omega) HRB.out).mono ?_
        rintro e W2 ⟨rfl, hown, hb2⟩
        rw [HLN.out]
        obtain ⟨g2, hg2⟩ : ∃ g, W1.heap.size = g := ⟨_, rfl⟩
        rw [hg2] at hown ⊢
        have HOWN := Lib.hid hown
        have HB2 := Lib.hid (below_step HB1.out hb2)
        have HRB2 := Lib.hid (HRB.out.below hb2)
        clear hown hb2 hg2 HRB HB1 hrun hu hz
        go_wp2_with fail
        refine (rest_any (some ⟨g2, 0, none⟩) m (m + 3) (byt u) W2 HLN.out (by omega) (by omega) (by omega) (fun h => by cases h) (lnd_rd HOWN.out)).mono ?_
        rw [HUD.out]
        rintro e W3 ⟨A3, cap3, rfl, hc3, hc3m, hA3, hrd3, hb3, ho3⟩
        rw [HLV.out] at hc3 ⊢
        have hsr := run_string_rd W3 A3 v.size cap3 (byt v) HLV.out hrd3
        rw [HVS.out] at hsr
        have HRD3 := Lib.hid hrd3
        have HO3 := Lib.hid ho3
        have HB3 := Lib.hid hb3
        have HA3 := Lib.hid hA3
        have HCM := Lib.hid hc3m
        clear hrd3 ho3 hb3 hA3
        go_wp2_with fail
        refine (rest_any A3 v.size cap3 (byt v) W3 HLV.out (by omega) hc3 hc3m HA3.out HRD3.out).mono ?_
        rw [HV0.out, List.drop_zero]
        rintro e W4 ⟨A4, cap4, rfl, hc4, hc4m, hA4, hrd4, hb4, ho4⟩
        rw [HLV.out] at hc4 ⊢
        have HRD4 := Lib.hid hrd4
        have HB4 := Lib.hid hb4
        have HRD3' := Lib.hid (HRD3.out.below hb4)
        clear hrd4 hb4 ho4 hA4 hsr
        go_wp2_with fail
        refine (sameB_any A4 A3 v.size cap4 cap3 (byt v) W4 HLV.out (by omega) hc4 hc3 HRD4.out HRD3'.out).mono ?_
        rintro e W5 ⟨rfl, hb5⟩
        have HB5 := Lib.hid (below_step HB4.out hb5)
        have HO5 : Hid (cap3 = 0 ∨ ∃ g ys, A3 = some ⟨g, 0, none⟩ ∧ W2.heap.size ≤ g ∧ OwnB W5 g (byt v ++ ys) ∧ (byt v ++ ys).length = cap3) := by
          rcases HO3.out with h | ⟨g, ys, h1, h2, h3, h4⟩
          · exact .inl h
          · exact .inr ⟨g, ys, h1, h2, h3.below HB5.out, h4⟩
        have HB25 := Lib.hid (HB3.out.trans (HB5.out.mono HB3.out.size))
        clear hb5
        go_wp2_with fail
        refine (spoil_fresh W2.heap.size A3 v.size cap3 (byt v) W5 hc3 HCM.out HO5.out).mono ?_
        rintro e W6 ⟨rfl, hb6⟩
        have HB6 := Lib.hid (HB25.out.trans hb6)
        have HRB6 := Lib.hid (HRB2.out.below HB6.out)
        have HOW6 := Lib.hid (HOWN.out.below HB6.out)
        have HBW := Lib.hid (below_step HB2.out HB6.out)
        clear hb6 HO5 HB25 HO3 HRD3 HRD3' HRD4 HB3 HB4 HB5 HB6 HOWN HRB2
        go_wp2_with fail
        refine (intact_any (some ⟨g1, 0, none⟩) m cap g2 (byt u) W6 HLN.out (by omega) HRB6.out HOW6.out).mono ?_
        rintro e W7 ⟨rfl, hb7⟩
        have HB7 := Lib.hid (below_step HBW.out hb7)
        clear hb7
        go_wp2_with fail
        refine (rest_any none 0 0 [] W7 rfl (by omega) (by omega) (by omega) (fun _ => rfl) (RdB.nil _ _)).mono ?_
        rintro e W8 ⟨A8, cap8, rfl, hc8, hc8m, hA8, hrd8, hb8, ho8⟩
        rw [show (List.drop (blkF []) ([] : List Int)).length = 0 from rfl]
        have HB8 := Lib.hid (below_step HB7.out hb8)
        clear hrd8 hb8 ho8 hA8 hc8
        go_wp2_with fail
        refine (wakes_at HB8.out).mono ?_
        rintro e W9 ⟨rfl, hb9⟩
        have HB9 := Lib.hid hb9
        clear hb9
        go_wp2_with fail
        go_ret
        exact ⟨rfl, HB9.out⟩
    · have d0 : decide ((0 : Int) < (v.size : Int)) = false := decide_eq_false (by omega)
      have HV0 : Hid (blkF (byt v) = 0) := by
        show _ = _
        have := blk_len (byt v)
        rw [byt_len] at this
        omega
      obtain ⟨z, hz⟩ : ∃ z, (⟨#[32, 32, 32, 32, 32, 32, 32, 32]⟩ : ByteArray).extract 0 n = z := ⟨_, rfl⟩
      have hzb : byt z = List.replicate n 32 := by rw [← hz]; exact eight_at n hn
      have hzs : z.size = n := by rw [← byt_len, hzb, List.length_replicate]
      obtain ⟨u, hu⟩ : ∃ u, z ++ v = u := ⟨_, rfl⟩
      have hus : u.size ≤ 38 := by rw [← hu, ByteArray.size_append]; omega
      have HU : Hid (byt u = List.replicate n 32 ++ byt v) := by show _ = _; rw [← hu, byt_append, hzb]
      have HUD : Hid ((byt u).drop (blkF (byt u)) = byt v) := by
        show _ = _
        rw [HU.out, blk_rep, HV0.out, Nat.add_zero]
        exact List.drop_left' (List.length_replicate ..)
      obtain ⟨cap, W1, B⟩ := bytes_of u (by omega) w
      have hrun := B.run
      have hcap := B.le
      have hcapm := B.max
      have HRB := Lib.hid B.rd
      have HB1 := Lib.hid B.below
      obtain ⟨g1, hg1⟩ : ∃ g, w.heap.size = g := ⟨_, rfl⟩
      rw [hg1] at hrun HRB
      clear B hg1 hzb
      have HLN := Lib.hid (byt_len u)
      have HLV := Lib.hid (byt_len v)
      have HVS := Lib.hid (strOfNums_byt v)
      obtain ⟨m, hm⟩ : ∃ n, u.size = n := ⟨_, rfl⟩
      rw [hm] at hrun hcap hus HLN
      go_wp2_with fail
      refine (lend_any (some ⟨g1, 0, none⟩) m cap (byt u) W1 HLN.out (by omega) HRB.out).mono ?_
      rintro e W2 ⟨rfl, hown, hb2⟩
      rw [HLN.out]
      obtain ⟨g2, hg2⟩ : ∃ g, W1.heap.size = g := ⟨_, rfl⟩
      rw [hg2] at hown ⊢
      have HOWN := Lib.hid hown
      have HB2 := Lib.hid (below_step HB1.out hb2)
      have HRB2 := Lib.hid (HRB.out.below hb2)
      clear hown hb2 hg2 HRB HB1 hrun hu hz
      go_wp2_with fail
      refine (rest_any (some ⟨g2, 0, none⟩) m (m + 3) (byt u) W2 HLN.out (by omega) (by omega) (by omega) (fun h => by cases h) (lnd_rd HOWN.out)).mono ?_
      rw [HUD.out]
      rintro e W3 ⟨A3, cap3, rfl, hc3, hc3m, hA3, hrd3, hb3, ho3⟩
      rw [HLV.out] at hc3 ⊢
      have hsr := run_string_rd W3 A3 v.size cap3 (byt v) HLV.out hrd3
      rw [HVS.out] at hsr
      have HRD3 := Lib.hid hrd3
      have HO3 := Lib.hid ho3
      have HB3 := Lib.hid hb3
      have HA3 := Lib.hid hA3
      have HCM := Lib.hid hc3m
      clear hrd3 ho3 hb3 hA3
      go_wp2_with fail
      refine (rest_any A3 v.size cap3 (byt v) W3 HLV.out (by omega) hc3 hc3m HA3.out HRD3.out).mono ?_
      rw [HV0.out, List.drop_zero]
      rintro e W4 ⟨A4, cap4, rfl, hc4, hc4m, hA4, hrd4, hb4, ho4⟩
      rw [HLV.out] at hc4 ⊢
      have HRD4 := Lib.hid hrd4
      have HB4 := Lib.hid hb4
      have HRD3' := Lib.hid (HRD3.out.below hb4)
      clear hrd4 hb4 ho4 hA4 hsr
      go_wp2_with fail
      refine (sameB_any A4 A3 v.size cap4 cap3 (byt v) W4 HLV.out (by omega) hc4 hc3 HRD4.out HRD3'.out).mono ?_
      rintro e W5 ⟨rfl, hb5⟩
      have HB5 := Lib.hid (below_step HB4.out hb5)
      have HO5 : Hid (cap3 = 0 ∨ ∃ g ys, A3 = some ⟨g, 0, none⟩ ∧ W2.heap.size ≤ g ∧ OwnB W5 g (byt v ++ ys) ∧ (byt v ++ ys).length = cap3) := by
        rcases HO3.out with h | ⟨g, ys, h1, h2, h3, h4⟩
        · exact .inl h
        · exact .inr ⟨g, ys, h1, h2, h3.below HB5.out, h4⟩
      have HB25 := Lib.hid (HB3.out.trans (HB5.out.mono HB3.out.size))
      clear hb5
      go_wp2_with fail
      refine (spoil_fresh W2.heap.size A3 v.size cap3 (byt v) W5 hc3 HCM.out HO5.out).mono ?_
      rintro e W6 ⟨rfl, hb6⟩
      have HB6 := Lib.hid (HB25.out.trans hb6)
      have HRB6 := Lib.hid (HRB2.out.below HB6.out)
      have HOW6 := Lib.hid (HOWN.out.below HB6.out)
      have HBW := Lib.hid (below_step HB2.out HB6.out)
      clear hb6 HO5 HB25 HO3 HRD3 HRD3' HRD4 HB3 HB4 HB5 HB6 HOWN HRB2
      go_wp2_with fail
      refine (intact_any (some ⟨g1, 0, none⟩) m cap g2 (byt u) W6 HLN.out (by omega) HRB6.out HOW6.out).mono ?_
      rintro e W7 ⟨rfl, hb7⟩
      have HB7 := Lib.hid (below_step HBW.out hb7)
      clear hb7
      go_wp2_with fail
      refine (rest_any none 0 0 [] W7 rfl (by omega) (by omega) (by omega) (fun _ => rfl) (RdB.nil _ _)).mono ?_
      rintro e W8 ⟨A8, cap8, rfl, hc8, hc8m, hA8, hrd8, hb8, ho8⟩
      rw [show (List.drop (blkF []) ([] : List Int)).length = 0 from rfl]
      have HB8 := Lib.hid (below_step HB7.out hb8)
      clear hrd8 hb8 ho8 hA8 hc8
      go_wp2_with fail
      refine (wakes_at HB8.out).mono ?_
      rintro e W9 ⟨rfl, hb9⟩
      have HB9 := Lib.hid hb9
      clear hb9
      go_wp2_with fail
      go_ret
      exact ⟨rfl, HB9.out⟩

/-! ### THE ROW's STEP: WRITTEN OUT: LEAVE IT -/
set_option maxRecDepth 100000 in
theorem lifted (os : Os) (started : os.Started) (H : Type) (enc : TypeId × Value → H) :
    ReturnsInHanded {} Try.checked os 4 .any (Rows.tailRestsSpec.pre6 enc Try.prog Try.f4 Rows.tailRestsRow.domain false) (Rows.tailRestsSpec.post enc Try.prog Try.f4 false true false false) := by
  refine returnsInHanded_of_change (C := Try.checked) own started (by kernel_rfl) Try.func4
    (ChangeSpec.witness6 (enc := enc) (C := Try.checked) false ⟨#[], #[.int .i64 0, .string ByteArray.empty], []⟩ 8 (by kernel_rfl) (by kernel_rfl) (by kernel_rfl) (by kernel_rfl)) ?_
  intro W base args ds gs before hval0 hW hcnd _
  have hval : ∀ (j : Nat) t v, Try.f4.params[j]? = some t → args[j]? = some v → Value.okWide Try.prog W .any base t v := hval0
  have hW' := hW
  obtain ⟨p, q, hA0, hV, rfl, hfz, hnd⟩ := hW
  have hA : DataW.TrodAll enc Try.prog W 0 (fun _ => true) true Try.f4.params.toList args.toList ds p := hA0
  rw [Try.params4] at hA hval
  obtain ⟨v0, vs0, d0, ds0, p0, q0, hargs, rfl, rfl, h0, r0⟩ := trodAll_cons hA
  obtain ⟨v1, vs1, d1, ds1, p1, q1, rfl, rfl, rfl, h1, r1⟩ := trodAll_cons r0
  obtain ⟨rfl, rfl, rfl⟩ := trodAll_nil r1
  obtain rfl : args = #[v0, v1] := by cases args; simp_all
  obtain ⟨rfl, rfl⟩ := trodVars_none hV
  obtain ⟨a0, rfl, rfl, rfl, w0⟩ := open_int Try.underlying3 (hval 0 3 v0 rfl rfl) h0
  obtain ⟨a1, rfl, rfl, rfl, w1⟩ := open_string Try.underlying9 (hval 1 9 v1 rfl rfl) h1
  clear hA0 hval0
  refine (walk a0 a1 w0 w1 W).mono fun e W' ⟨he, hg⟩ => ?_
  subst he
  exact ⟨_, rfl, _, _, _, [], [], [], hW', trodAll_mk1 (shut_bool Try.underlying4 _), (trodAll_cons_mk (shut_int Try.underlying3 w0) (trodAll_cons_mk (shut_string Try.underlying9 w1) trodAll_mk0)), rfl, hg.frame _, fun h => by cases h⟩

theorem over : Rows.tailRestsRow.holds Try.pinned (OpenSpec.ofChange Rows.tailRestsSpec) :=
  OpenClaim.holds_of_wide 4 Try.f4 rfl rfl rfl rfl rfl rfl rfl ⟨rfl, rfl, rfl, rfl, rfl⟩ rfl rfl rfl rfl rfl (by kernel_rfl) Try.func4 (by kernel_rfl)
    (of_decide_eq_true (by kernel_rfl)) (by unfold Func.isWrapper; first | (rw [if_pos (by decide +kernel)]; kernel_rfl) | (rw [if_neg (by decide +kernel)]; exact ⟨rfl, rfl⟩))
    (fun os started H enc _ => lifted os started H enc)

/-- ████ THE STATEMENT ████ -/
theorem proved : Rows.TailRestsSaid :=
  over
#print axioms proved
end Go.Proofs.Ytjdmbldbbohdbaa.tailRests
