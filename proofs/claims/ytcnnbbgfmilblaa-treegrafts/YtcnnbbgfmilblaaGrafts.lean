/-
  Proved: the law 'scholium/scholiumlaw13.TreeGrafts' returns true for every input, and every argument reads as it did before. No conditions.
-/
import Derived.Test.YtcnnbbgfmilblaaRows
import Derived.Test.YtcnnbbgfmilblaaMA
import Derived.Test.YtcnnbbgfmilblaaMH
import Derived.Test.YtcnnbbgfmilblaaMM
import Derived.Test.YtcnnbbgfmilblaaMN
import Derived.WalkKit
import Derived.ProofKit
import Derived.OpenShut
import Derived.ShutString
import Derived.ChangeOld
import Derived.Below
namespace Go.Proofs.Ytcnnbbgfmilblaa.treeGrafts
open Go.ChangeShapes Go.WideShapes Go.ChangeAt Go.RowKit
open Go.ChangeMaps (open_string shut_string)
set_option linter.unusedVariables false
set_option linter.unusedSimpArgs false

theorem own : ownKnob Try.prog.godebug = none := by kernel_rfl
theorem laidOut : laidOutB Try.prog = true := by kernel_rfl

/-- A slice of integers that came in. -/
def IsRow (k : IntKind) (w : World) (a : Option Addr) (len cap : Nat) (zs : List Int) : Prop :=
  (a = none ∧ len = 0 ∧ cap = 0 ∧ zs = []) ∨
  ∃ x, a = some x ∧ len ≤ cap ∧ cap ≤ maxLen ∧ zs.length = cap ∧ (∀ i, i < zs.length → w.cell? (x.add i) = some (.int k (zs.getD i 0))) ∧ ∀ n ∈ zs, (Lit.int k n).wf = true

set_option maxRecDepth 100000
set_option maxHeartbeats 16000000
theorem walk (a0 : Value) (a1 : Value) (a2 : Int) (w : World) (w0 : IsPlan w a0) (w1 : IsPlan w a1) (w2 : (Lit.int .i64 a2).wf = true) :
    Calls Try.prog 7 #[a0, a1, .int .i64 a2] w fun e w' => e = .returned (.bool true) ∧ Below w.heap.size w w' := by
  obtain ⟨A1, n1, c1, A2, n2, c2, rfl, hp⟩ := w0
  obtain ⟨A3, n3, c3, A4, n4, c4, rfl, hq⟩ := w1
  have HP := Lib.hid (And.intro hp hq)
  clear hp hq
  obtain ⟨b0, hb0⟩ : ∃ z, w.heap.size = z := ⟨_, rfl⟩
  obtain ⟨W0, hW0⟩ : ∃ W0, w.alloc (.cells #[.slice A1 n1 c1, .slice A2 n2 c2] 25) = W0 := ⟨_, rfl⟩
  have bb0 : Below w.heap.size w W0 := by rw [← hW0]; exact (Below.refl _ _).alloc (Nat.le_refl _) _
  have u0 : W0.cell? ⟨b0, 0, none⟩ = some (.slice A1 n1 c1) := by rw [← hW0, ← hb0, World.cell?_alloc_mark]; rfl
  have u1 : W0.cell? ⟨b0, 1, none⟩ = some (.slice A2 n2 c2) := by rw [← hW0, ← hb0, World.cell?_alloc_mark]; rfl
  have s0 : W0.heap.size = b0 + 1 := by rw [← hW0, ← hb0]; simp
  obtain ⟨W1, hW1⟩ : ∃ W1, W0.alloc (.cells #[.slice A3 n3 c3, .slice A4 n4 c4] 25) = W1 := ⟨_, rfl⟩
  have bb1 : Below W0.heap.size W0 W1 := by rw [← hW1]; exact (Below.refl _ _).alloc (Nat.le_refl _) _
  have d0 := cell_keep bb1 u0
  have d1 := cell_keep bb1 u1
  have d2 : W1.cell? ⟨b0 + 1, 0, none⟩ = some (.slice A3 n3 c3) := by rw [← hW1, ← s0, World.cell?_alloc_mark]; rfl
  have d3 : W1.cell? ⟨b0 + 1, 1, none⟩ = some (.slice A4 n4 c4) := by rw [← hW1, ← s0, World.cell?_alloc_mark]; rfl
  have HB1 := Lib.hid (below_step bb0 bb1)
  clear u0 u1
  go_enter Try.func7, Try.ntmps7
  go_upto_region 1 with fail
  clear hW0 hW1 hb0 s0 bb0 bb1
  have hBD : Below W1.heap.size W1 W1.drew := (Below.refl _ _).drew
  have HBD : Hid (Below w.heap.size w W1.drew) := HB1.out.drew
  go_wp2_with fail
  refine gen_act fun a0 hA => ?_
  have hsz : a0.tmps.size = 82 := by rw [hA]; rfl
  have eA : a0.eval (.tmp 3) = .pointer (some ⟨b0, 0, none⟩) := by rw [hA]; rfl
  have eB : a0.eval (.tmp 4) = .pointer (some ⟨b0 + 1, 0, none⟩) := by rw [hA]; rfl
  have hS : Below W1.heap.size W1 W1.drew := hBD
  refine region_gate (fun U => Below W1.heap.size W1 U) 3 (by kernel_rfl) ?_
  change wpGate _ _ _ _ _ _ 6 _ _ _
  refine gate_take (i := 2) (v := (.agg #[.slice A3 n3 c3, .slice A4 n4 c4])) rfl (by rfl) (by kernel_rfl) (by kernel_rfl) (by kernel_rfl) (by kernel_rfl) (by kernel_rfl) (fun _ _ _ h => h) rfl (fun U hU => loadP_exec _ (.tmp 4) rfl _ U _ _ _ (by simp [evp_same, evp_ne, szp, hsz, eA, eB]) (cell_keep hU d2) (cell_keep hU d3)) hS ?_
  refine gate_one (i := 0) (by kernel_rfl) ?_
  refine wpOp_value (w' := W1.drew) (v := (.agg #[.slice A1 n1 c1, .slice A2 n2 c2])) rfl rfl (loadP_exec _ (.tmp 3) rfl _ W1.drew _ _ _ (by simp [evp_same, evp_ne, szp, hsz, eA, eB]) (cell_keep hS d0) (cell_keep hS d1)) ⟨fun _ => hS, ?_⟩
  refine gate_one (i := 1) (by kernel_rfl) ?_
  refine wpOp_callX rfl rfl (made_run _ _ (.tmp 12) _ rfl _ (by simp [evp_same, evp_ne, szp, hsz, eA, eB]) _) (made_tree HP.out.1 HBD.out) ?_
  rintro e v1 ⟨g1, m1, k1, L, E, rfl, hn1, hn1', hk1, hk1', ht1, hz1⟩
  have HC1 := Lib.hid (below_step HBD.out hz1)
  have hS1 : Below W1.heap.size W1 v1 := below_step hBD hz1
  have HT1 := Lib.hid ht1
  clear ht1 hz1
  refine ⟨_, rfl, fun _ => hS1, ?_⟩
  refine gate_one (i := 3) (by kernel_rfl) ?_
  refine wpOp_callX rfl rfl (made_run _ _ (.tmp 14) _ rfl _ (by simp [evp_same, evp_ne, szp, hsz, eA, eB]) _) (made_tree HP.out.2 HC1.out) ?_
  rintro e v2 ⟨g2, m2, k2, M, F, rfl, hn2, hn2', hk2, hk2', ht2, hz2⟩
  have HC2 := Lib.hid (below_step HC1.out hz2)
  have HT2 := Lib.hid ht2
  have HF := Lib.hid (HT1.out.below hz2)
  clear ht2 hz2
  refine ⟨_, rfl, fun h => Bool.noConfusion (show true = false from h), ?_⟩
  have R1 : Hid (1 ≤ m1 ∧ m1 ≤ 65537 ∧ 1 ≤ m2 ∧ m2 ≤ 65537) := ⟨hn1, hn1', hn2, hn2'⟩
  refine gate_one (i := 4) (by kernel_rfl) ?_
  refine wpOp_value (w' := v2) (v := .slice (some ⟨g1, 0, none⟩) m1 k1) rfl rfl (assign_exec _ (.tmp 13) rfl _ _ (by simp [evp_same, evp_ne, szp, hsz]) v2) ⟨fun h => Bool.noConfusion (show true = false from h), ?_⟩
  refine gate_one (i := 5) (by kernel_rfl) ?_
  refine wpOp_value (w' := v2) (v := .slice (some ⟨g2, 0, none⟩) m2 k2) rfl rfl (assign_exec _ (.tmp 15) rfl _ _ (by simp [evp_same, evp_ne, szp, hsz]) v2) ⟨fun h => Bool.noConfusion (show true = false from h), ?_⟩
  refine kgate_gen fun a1 hA1 => ?_
  have hA2 : a1 = ((((((a0.put (some 14) (.agg #[.slice A3 n3 c3, .slice A4 n4 c4])).put (some 12) (.agg #[.slice A1 n1 c1, .slice A2 n2 c2])).put (some 13) (.slice (some ⟨g1, 0, none⟩) m1 k1)).put (some 15) (.slice (some ⟨g2, 0, none⟩) m2 k2)).put (some 7) (.slice (some ⟨g1, 0, none⟩) m1 k1)).put (some 8) (.slice (some ⟨g2, 0, none⟩) m2 k2)) := hA1
  clear hA1
  refine gate_done (by kernel_rfl) ?_ _
  subst hA2 hA
  clear hsz eA eB hS hS1 d0 d1 d2 d3 hBD
  simp only [Act.put, List.setIfInBounds_toArray, List.set_cons_zero, List.set_cons_succ]
  have hb2 := bounds_i64 w2
  go_wp2_with fail
  refine (within_nat a2 m1 v2 hn1 (by omega) hb2).mono ?_
  rintro e w3 ⟨a, ha, rfl, rfl⟩
  have hal : a < L.length := by rw [HF.out.gl.len]; exact ha
  obtain ⟨sb1, sb2, sb3, sb4⟩ := HF.out.ge.sub (a := a) hal
  obtain ⟨gr1, gr2⟩ := HF.out.ge.graft HT2.out.ge hal (by rw [HT2.out.gl.len]; omega)
  have HS := Lib.hid (And.intro hal (And.intro sb1 (And.intro sb2 (And.intro sb3 sb4))))
  have HR := Lib.hid (And.intro gr1 gr2)
  obtain ⟨O, hO⟩ : ∃ z, subF L (a : Int) = z := ⟨_, rfl⟩
  obtain ⟨G, hG⟩ : ∃ z, graftF L a M = z := ⟨_, rfl⟩
  have HOG := Lib.hid (And.intro hO hG)
  clear sb1 sb2 sb3 sb4 gr1 gr2 hal hO hG
  -- own
  go_wp2_with fail
  refine (sub_at HF.out.gl (HF.out.sm (by omega)) (by omega)).mono ?_
  intro e w3 h3
  rw [HOG.out.1] at h3
  obtain ⟨A5, k5, rfl, q1, q2, hg5, hb5⟩ := h3.out
  obtain ⟨o, ho⟩ : ∃ z, O.length = z := ⟨_, rfl⟩
  have hoE : o = E a - a ∧ 1 ≤ o ∧ o ≤ m1 := by
    have h1 := HS.out.2.2.1
    have h2 := HS.out.2.2.2.1
    have h3 := HS.out.2.2.2.2
    rw [HOG.out.1, ho] at h1
    rw [HF.out.gl.len] at h2
    omega
  have HoE := Lib.hid hoE
  have ho1 := hoE.2.1
  have ho2 := hoE.2.2
  clear hoE
  rw [ho] at hg5 q1
  have H5 := Lib.hid (And.intro hg5 (And.intro (HF.out.below hb5) (And.intro (HT2.out.below hb5) (below_step HC2.out hb5))))
  clear h3 hg5 hb5
  rw [ho]
  have sO : Hid (Small O) := by show Small O; rw [← HOG.out.1]; exact HS.out.2.1.small (by rw [HOG.out.1, ho]; omega)
  -- graft back own
  have GO : graftF L a O = L := by rw [← HOG.out.1]; exact HF.out.ge.graft_own HS.out.1
  have HGO := Lib.hid GO
  clear GO
  go_wp2_with fail
  refine (graft_at H5.out.2.1.gl H5.out.1 (HF.out.sm (by omega)) sO.out (by omega) (by omega) ha).mono ?_
  intro e w4 h4
  rw [HGO.out] at h4
  obtain ⟨A6, k6, rfl, q3, q4, hg6, hb6⟩ := h4.out
  have hLl : L.length = m1 := HF.out.gl.len
  rw [hLl] at hg6 q3
  rw [hLl]
  have H6 := Lib.hid (And.intro (H5.out.1.below hb6) (And.intro (H5.out.2.1.below hb6) (And.intro (H5.out.2.2.1.below hb6) (And.intro (below_step H5.out.2.2.2 hb6) hg6))))
  clear h4 hg6 hb6 H5
  go_wp2_with fail
  refine (treeSame_at H6.out.2.2.2.2 H6.out.2.1.gl (by omega) (by omega) (HF.out.kl (by omega)) (HF.out.kl (by omega))).mono ?_
  rintro e w5 ⟨b, rfl, hb, hb7⟩
  obtain rfl : b = true := hb.2 (SameL.refl L)
  have H7 := Lib.hid (And.intro (H6.out.1.below hb7) (And.intro (H6.out.2.1.below hb7) (And.intro (H6.out.2.2.1.below hb7) (below_step H6.out.2.2.2.1 hb7))))
  clear hb hb7 H6
  go_wp2_with fail
  -- graft of the other
  refine (graft_at H7.out.2.1.gl H7.out.2.2.1.gl (HF.out.sm (by omega)) (HT2.out.sm (by omega)) (by omega) (by omega) ha).mono ?_
  intro e w6 h6
  rw [HOG.out.2] at h6
  obtain ⟨A8, k8, rfl, q5, q6, hg8, hb8⟩ := h6.out
  obtain ⟨g, hg⟩ : ∃ z, G.length = z := ⟨_, rfl⟩
  have hgE : (g : Int) = (m1 : Int) - (o : Int) + (m2 : Int) ∧ g ≤ 200000 ∧ a < g := by
    have h1 := HR.out.2
    have h2 := HS.out.2.2.2.1
    have h3 := HoE.out.1
    rw [HF.out.gl.len] at h2
    rw [HOG.out.2, hg, HF.out.gl.len, HT2.out.gl.len, ← HoE.out.1] at h1
    omega
  have HgE := Lib.hid hgE
  have hg1 := hgE.2.1
  have hg2 := hgE.2.2
  have hsumI : (m1 : Int) - (o : Int) + (m2 : Int) = (g : Int) := hgE.1.symm
  clear hgE
  rw [hg] at hg8 q5
  rw [hg]
  have HGE : Hid (GE G (gE E F a (E a - a) M.length)) := by show GE G _; rw [← HOG.out.2]; exact HR.out.1
  have sG : Hid (Small G) := by show Small G; exact HGE.out.small (by rw [hg]; omega)
  have H8 := Lib.hid (And.intro (H7.out.1.below hb8) (And.intro (H7.out.2.1.below hb8) (And.intro (H7.out.2.2.1.below hb8) (And.intro (below_step H7.out.2.2.2 hb8) hg8))))
  clear h6 hg8 hb8 H7
  have GS : Hid (subF G (a : Int) = M) := by show subF G _ = M; rw [← HOG.out.2]; exact HF.out.ge.graft_sub HT2.out.ge HS.out.1 (by rw [HT2.out.gl.len]; omega)
  go_wp2_with fail
  refine (sub_at H8.out.2.2.2.2 sG.out (by omega)).mono ?_
  intro e w7 h7
  rw [GS.out] at h7
  obtain ⟨A9, k9, rfl, q7, q8, hg9, hb9⟩ := h7.out
  have hMl : M.length = m2 := HT2.out.gl.len
  rw [hMl] at hg9 q7
  rw [hMl]
  have H9 := Lib.hid (And.intro (H8.out.1.below hb9) (And.intro (H8.out.2.1.below hb9) (And.intro (H8.out.2.2.1.below hb9) (And.intro (below_step H8.out.2.2.2.1 hb9) (And.intro (H8.out.2.2.2.2.below hb9) hg9)))))
  clear h7 hg9 hb9 H8
  go_wp2_with fail
  refine (treeSame_at H9.out.2.2.2.2.2 H9.out.2.2.1.gl (by omega) (by omega) (HT2.out.kl (by omega)) (HT2.out.kl (by omega))).mono ?_
  rintro e w8 ⟨b, rfl, hb, hb10⟩
  obtain rfl : b = true := hb.2 (SameL.refl M)
  have H10 := Lib.hid (And.intro (H9.out.1.below hb10) (And.intro (H9.out.2.1.below hb10) (And.intro (below_step H9.out.2.2.2.1 hb10) (H9.out.2.2.2.2.1.below hb10))))
  clear hb hb10 H9
  have HV : Hid (tValidF G = true) := HGE.out.valid (by rw [hg]; omega)
  go_wp2_with fail
  refine (gvalid_at H10.out.2.2.2 (fun x hx => (sG.out x hx).1) (by omega)).mono ?_
  rintro e w9 ⟨rfl, hb11⟩
  rw [HV.out]
  have H11 := Lib.hid (And.intro (H10.out.1.below hb11) (And.intro (H10.out.2.1.below hb11) (And.intro (below_step H10.out.2.2.1 hb11) (H10.out.2.2.2.below hb11))))
  clear hb11 H10
  have GB : Hid (graftF G a O = L) := by show graftF G a O = L; rw [← HOG.out.1, ← HOG.out.2]; exact HF.out.ge.graft_back HT2.out.ge HS.out.1 (by rw [HT2.out.gl.len]; omega)
  go_wp2_with fail
  refine (graft_at H11.out.2.2.2 H11.out.1 sG.out sO.out (by omega) (by omega) hg2).mono ?_
  intro e w10 h10
  rw [GB.out] at h10
  obtain ⟨A12, k12, rfl, q9, q10, hg12, hb12⟩ := h10.out
  rw [hLl] at hg12 q9
  rw [hLl]
  have H12 := Lib.hid (And.intro (H11.out.2.1.below hb12) (And.intro (below_step H11.out.2.2.1 hb12) hg12))
  clear h10 hg12 hb12 H11
  go_wp2_with fail
  refine (treeSame_at H12.out.2.2 H12.out.1.gl (by omega) (by omega) (HF.out.kl (by omega)) (HF.out.kl (by omega))).mono ?_
  rintro e w11 ⟨b, rfl, hb, hb13⟩
  obtain rfl : b = true := hb.2 (SameL.refl L)
  have H13 := Lib.hid (And.intro (H12.out.1.below hb13) (below_step H12.out.2.1 hb13))
  clear hb hb13 H12
  have S1 : Hid (subF L (-1) = []) := by show subF L (-1) = []; unfold subF; rw [if_neg (by omega)]
  have S2 : Hid (subF L (m1 : Int) = []) := by show subF L (m1 : Int) = []; unfold subF; rw [if_neg (by rw [hLl]; omega)]
  go_wp2_with fail
  refine (sub_at H13.out.1.gl (HF.out.sm (by omega)) (by omega)).mono ?_
  intro e w12 h14
  rw [S1.out] at h14
  obtain ⟨A14, k14, rfl, q11, q12, hg14, hb14⟩ := h14.out
  have H14 := Lib.hid (And.intro (H13.out.1.below hb14) (below_step H13.out.2 hb14))
  clear h14 hg14 hb14 H13
  go_wp2_with fail
  refine (sub_at H14.out.1.gl (HF.out.sm (by omega)) (by omega)).mono ?_
  intro e w13 h15
  rw [S2.out] at h15
  obtain ⟨A15, k15, rfl, q13, q14, hg15, hb15⟩ := h15.out
  have H15 := Lib.hid (below_step H14.out.2 hb15)
  clear h15 hg15 hb15 H14
  go_wp2_with fail
  refine (twakes_at w13).mono ?_
  rintro e w14 ⟨rfl, hb16⟩
  have H16 := Lib.hid (below_step H15.out hb16)
  clear hb16
  go_wp2_with fail
  go_ret
  exact ⟨rfl, H16.out⟩


set_option maxRecDepth 100000 in
theorem lifted (os : Os) (started : os.Started) (H : Type) (enc : TypeId × Value → H) :
    ReturnsInHanded {} Try.checked os 7 .any (Rows.treeGraftsSpec.pre6 enc Try.prog Try.f7 Rows.treeGraftsRow.domain false) (Rows.treeGraftsSpec.post enc Try.prog Try.f7 false true false false) := by
  refine returnsInHanded_of_change (C := Try.checked) own started (by kernel_rfl) Try.func7
    (ChangeSpec.witness6 (enc := enc) (C := Try.checked) false ⟨#[], #[.agg #[.slice none 0 0, .slice none 0 0], .agg #[.slice none 0 0, .slice none 0 0], .int .i64 0], []⟩ 8 (by kernel_rfl) (by kernel_rfl) (by kernel_rfl) (by kernel_rfl)) ?_
  intro W base args ds gs before hval0 hW hcnd _
  have hval : ∀ (j : Nat) t v, Try.f7.params[j]? = some t → args[j]? = some v → Value.okWide Try.prog W .any base t v := hval0
  have hW' := hW
  obtain ⟨p, q, hA0, hV, rfl, hfz, hnd⟩ := hW
  have hA : DataW.TrodAll enc Try.prog W 0 (fun _ => true) true Try.f7.params.toList args.toList ds p := hA0
  rw [Try.params7] at hA hval
  obtain ⟨v0, vs0, d0, ds0, p0, q0, hargs, rfl, rfl, h0, r0⟩ := trodAll_cons hA
  obtain ⟨v1, vs1, d1, ds1, p1, q1, rfl, rfl, rfl, h1, r1⟩ := trodAll_cons r0
  obtain ⟨v2, vs2, d2, ds2, p2, q2, rfl, rfl, rfl, h2, r2⟩ := trodAll_cons r1
  obtain ⟨rfl, rfl, rfl⟩ := trodAll_nil r2
  obtain rfl : args = #[v0, v1, v2] := by cases args; simp_all
  obtain ⟨rfl, rfl⟩ := trodVars_none hV
  have k0 := h0
  have lt0 : ∀ x ∈ p0, x.block < W.heap.size := by obtain ⟨m, hm⟩ := k0; exact DataW.trod_lt m _ _ _ hm
  have w0 := open_plan (hval 0 25 v0 rfl rfl) h0
  have k1 := h1
  have lt1 : ∀ x ∈ p1, x.block < W.heap.size := by obtain ⟨m, hm⟩ := k1; exact DataW.trod_lt m _ _ _ hm
  have w1 := open_plan (hval 1 25 v1 rfl rfl) h1
  obtain ⟨a2, rfl, rfl, rfl, w2⟩ := open_int Try.underlying3 (hval 2 3 v2 rfl rfl) h2
  clear hA0 hval0
  refine (walk v0 v1 a2 W w0 w1 w2).mono fun e W' ⟨he, bel⟩ => ?_
  subst he
  exact ⟨_, rfl, _, _, _, [], _, [], hW', trodAll_mk1 (shut_bool Try.underlying4 _), (trodAll_cons_mk (Below.trod laidOut (by kernel_rfl) (of_decide_eq_true (by kernel_rfl)) k0 bel lt0) (trodAll_cons_mk (Below.trod laidOut (by kernel_rfl) (of_decide_eq_true (by kernel_rfl)) k1 bel lt1) (trodAll_cons_mk (shut_int Try.underlying3 w2) trodAll_mk0))), rfl, bel.frame _, fun h => by cases h⟩

theorem over : Rows.treeGraftsRow.holds Try.pinned (OpenSpec.ofChange Rows.treeGraftsSpec) :=
  OpenClaim.holds_of_wide 7 Try.f7 rfl rfl rfl rfl rfl rfl rfl ⟨rfl, rfl, rfl, rfl, rfl⟩ rfl rfl rfl rfl rfl (by kernel_rfl) Try.func7 (by kernel_rfl)
    (of_decide_eq_true (by kernel_rfl)) (by unfold Func.isWrapper; first | (rw [if_pos (by decide +kernel)]; kernel_rfl) | (rw [if_neg (by decide +kernel)]; exact ⟨rfl, rfl⟩))
    (fun os started H enc _ => lifted os started H enc)

theorem proved : Rows.TreeGraftsSaid := over
#print axioms proved
end Go.Proofs.Ytcnnbbgfmilblaa.treeGrafts
