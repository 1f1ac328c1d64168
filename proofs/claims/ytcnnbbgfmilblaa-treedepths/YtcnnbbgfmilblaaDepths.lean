/-
  Proved: the law 'scholium/scholiumlaw13.TreeDepths' returns true for every input, and every argument reads as it did before. No conditions.
-/
import Derived.Test.YtcnnbbgfmilblaaRows
import Derived.Test.YtcnnbbgfmilblaaMA
import Derived.Test.YtcnnbbgfmilblaaMH
import Derived.Test.YtcnnbbgfmilblaaMM
import Derived.Test.YtcnnbbgfmilblaaMN
import Derived.WalkKit
import Derived.ProofKit
import Derived.OpenShut
import Derived.ShutString
import Derived.ChangeOld
import Derived.Below
namespace Go.Proofs.Ytcnnbbgfmilblaa.treeDepths
open Go.ChangeShapes Go.WideShapes Go.ChangeAt Go.RowKit
open Go.ChangeMaps (open_string shut_string)
set_option linter.unusedVariables false
set_option linter.unusedSimpArgs false

theorem own : ownKnob Try.prog.godebug = none := by kernel_rfl
theorem laidOut : laidOutB Try.prog = true := by kernel_rfl

/-- A slice of integers that came in. -/
def IsRow (k : IntKind) (w : World) (a : Option Addr) (len cap : Nat) (zs : List Int) : Prop :=
  (a = none ∧ len = 0 ∧ cap = 0 ∧ zs = []) ∨
  ∃ x, a = some x ∧ len ≤ cap ∧ cap ≤ maxLen ∧ zs.length = cap ∧ (∀ i, i < zs.length → w.cell? (x.add i) = some (.int k (zs.getD i 0))) ∧ ∀ n ∈ zs, (Lit.int k n).wf = true

set_option maxRecDepth 100000
set_option maxHeartbeats 16000000
theorem walk (a0 : Value) (a1 : Value) (w : World) (w0 : IsPlan w a0) (w1 : IsPlan w a1) :
    Calls Try.prog 4 #[a0, a1] w fun e w' => e = .returned (.bool true) ∧ Below w.heap.size w w' := by
  obtain ⟨A1, n1, c1, A2, n2, c2, rfl, hp⟩ := w0
  obtain ⟨A3, n3, c3, A4, n4, c4, rfl, hq⟩ := w1
  have HP := Lib.hid (And.intro hp hq)
  clear hp hq
  obtain ⟨b0, hb0⟩ : ∃ z, w.heap.size = z := ⟨_, rfl⟩
  obtain ⟨W0, hW0⟩ : ∃ W0, w.alloc (.cells #[.slice A1 n1 c1, .slice A2 n2 c2] 25) = W0 := ⟨_, rfl⟩
  have bb0 : Below w.heap.size w W0 := by rw [← hW0]; exact (Below.refl _ _).alloc (Nat.le_refl _) _
  have u0 : W0.cell? ⟨b0, 0, none⟩ = some (.slice A1 n1 c1) := by rw [← hW0, ← hb0, World.cell?_alloc_mark]; rfl
  have u1 : W0.cell? ⟨b0, 1, none⟩ = some (.slice A2 n2 c2) := by rw [← hW0, ← hb0, World.cell?_alloc_mark]; rfl
  have s0 : W0.heap.size = b0 + 1 := by rw [← hW0, ← hb0]; simp
  obtain ⟨W1, hW1⟩ : ∃ W1, W0.alloc (.cells #[.slice A3 n3 c3, .slice A4 n4 c4] 25) = W1 := ⟨_, rfl⟩
  have bb1 : Below W0.heap.size W0 W1 := by rw [← hW1]; exact (Below.refl _ _).alloc (Nat.le_refl _) _
  have d0 := cell_keep bb1 u0
  have d1 := cell_keep bb1 u1
  have d2 : W1.cell? ⟨b0 + 1, 0, none⟩ = some (.slice A3 n3 c3) := by rw [← hW1, ← s0, World.cell?_alloc_mark]; rfl
  have d3 : W1.cell? ⟨b0 + 1, 1, none⟩ = some (.slice A4 n4 c4) := by rw [← hW1, ← s0, World.cell?_alloc_mark]; rfl
  have HB1 := Lib.hid (below_step bb0 bb1)
  clear u0 u1
  go_enter Try.func4, Try.ntmps4
  go_upto_region 1 with fail
  clear hW0 hW1 hb0 s0 bb0 bb1
  have hBD : Below W1.heap.size W1 W1.drew := (Below.refl _ _).drew
  have HBD : Hid (Below w.heap.size w W1.drew) := HB1.out.drew
  go_wp2_with fail
  refine gen_act fun a0 hA => ?_
  have hsz : a0.tmps.size = 65 := by rw [hA]; rfl
  have eA : a0.eval (.tmp 2) = .pointer (some ⟨b0, 0, none⟩) := by rw [hA]; rfl
  have eB : a0.eval (.tmp 3) = .pointer (some ⟨b0 + 1, 0, none⟩) := by rw [hA]; rfl
  have hS : Below W1.heap.size W1 W1.drew := hBD
  refine region_gate (fun U => Below W1.heap.size W1 U) 3 (by kernel_rfl) ?_
  change wpGate _ _ _ _ _ _ 6 _ _ _
  refine gate_take (i := 2) (v := (.agg #[.slice A3 n3 c3, .slice A4 n4 c4])) rfl (by rfl) (by kernel_rfl) (by kernel_rfl) (by kernel_rfl) (by kernel_rfl) (by kernel_rfl) (fun _ _ _ h => h) rfl (fun U hU => loadP_exec _ (.tmp 3) rfl _ U _ _ _ (by simp [evp_same, evp_ne, szp, hsz, eA, eB]) (cell_keep hU d2) (cell_keep hU d3)) hS ?_
  refine gate_one (i := 0) (by kernel_rfl) ?_
  refine wpOp_value (w' := W1.drew) (v := (.agg #[.slice A1 n1 c1, .slice A2 n2 c2])) rfl rfl (loadP_exec _ (.tmp 2) rfl _ W1.drew _ _ _ (by simp [evp_same, evp_ne, szp, hsz, eA, eB]) (cell_keep hS d0) (cell_keep hS d1)) ⟨fun _ => hS, ?_⟩
  refine gate_one (i := 1) (by kernel_rfl) ?_
  refine wpOp_callX rfl rfl (made_run _ _ (.tmp 10) _ rfl _ (by simp [evp_same, evp_ne, szp, hsz, eA, eB]) _) (made_tree HP.out.1 HBD.out) ?_
  rintro e v1 ⟨g1, m1, k1, L, E, rfl, hn1, hn1', hk1, hk1', ht1, hz1⟩
  have HC1 := Lib.hid (below_step HBD.out hz1)
  have hS1 : Below W1.heap.size W1 v1 := below_step hBD hz1
  have HT1 := Lib.hid ht1
  clear ht1 hz1
  refine ⟨_, rfl, fun _ => hS1, ?_⟩
  refine gate_one (i := 3) (by kernel_rfl) ?_
  refine wpOp_callX rfl rfl (made_run _ _ (.tmp 12) _ rfl _ (by simp [evp_same, evp_ne, szp, hsz, eA, eB]) _) (made_tree HP.out.2 HC1.out) ?_
  rintro e v2 ⟨g2, m2, k2, M, F, rfl, hn2, hn2', hk2, hk2', ht2, hz2⟩
  have HC2 := Lib.hid (below_step HC1.out hz2)
  have HT2 := Lib.hid ht2
  have HF := Lib.hid (HT1.out.below hz2)
  clear ht2 hz2
  refine ⟨_, rfl, fun h => Bool.noConfusion (show true = false from h), ?_⟩
  have R1 : Hid (1 ≤ m1 ∧ m1 ≤ 65537 ∧ 1 ≤ m2 ∧ m2 ≤ 65537) := ⟨hn1, hn1', hn2, hn2'⟩
  refine gate_one (i := 4) (by kernel_rfl) ?_
  refine wpOp_value (w' := v2) (v := .slice (some ⟨g1, 0, none⟩) m1 k1) rfl rfl (assign_exec _ (.tmp 11) rfl _ _ (by simp [evp_same, evp_ne, szp, hsz]) v2) ⟨fun h => Bool.noConfusion (show true = false from h), ?_⟩
  refine gate_one (i := 5) (by kernel_rfl) ?_
  refine wpOp_value (w' := v2) (v := .slice (some ⟨g2, 0, none⟩) m2 k2) rfl rfl (assign_exec _ (.tmp 13) rfl _ _ (by simp [evp_same, evp_ne, szp, hsz]) v2) ⟨fun h => Bool.noConfusion (show true = false from h), ?_⟩
  refine kgate_gen fun a1 hA1 => ?_
  have hA2 : a1 = ((((((a0.put (some 12) (.agg #[.slice A3 n3 c3, .slice A4 n4 c4])).put (some 10) (.agg #[.slice A1 n1 c1, .slice A2 n2 c2])).put (some 11) (.slice (some ⟨g1, 0, none⟩) m1 k1)).put (some 13) (.slice (some ⟨g2, 0, none⟩) m2 k2)).put (some 5) (.slice (some ⟨g1, 0, none⟩) m1 k1)).put (some 6) (.slice (some ⟨g2, 0, none⟩) m2 k2)) := hA1
  clear hA1
  refine gate_done (by kernel_rfl) ?_ _
  subst hA2 hA
  clear hsz eA eB hS hS1 d0 d1 d2 d3 hBD
  simp only [Act.put, List.setIfInBounds_toArray, List.set_cons_zero, List.set_cons_succ]
  obtain ⟨S, hS⟩ : ∃ z, v2.heap.size = z := ⟨_, rfl⟩
  obtain ⟨X1, hX1⟩ : ∃ z, v2.alloc (.cells #[.int .i64 1] 3) = z := ⟨_, rfl⟩
  obtain ⟨X2, hX2⟩ : ∃ z, X1.alloc (.cells #[.int .i64 2, .int .i64 0, .string ⟨#[33, 33, 115, 101, 113]⟩, .string ⟨#[]⟩, .string ⟨#[]⟩, .int .i64 0, .int .i64 0, .int .i64 0, .int .i64 0, .slice (some ⟨S, 0, none⟩) 1 1, .int .i64 1, .int .i64 0, .string ⟨#[]⟩, .string ⟨#[]⟩, .string ⟨#[]⟩, .int .i64 0, .int .i64 0, .int .i64 0, .int .i64 0, .slice none 0 0] 31) = z := ⟨_, rfl⟩
  obtain ⟨go1, gb1, gs1⟩ := outer1_gl hS hX1 hX2
  have HLm : Hid (L.length = m1 ∧ M.length = m2) := ⟨HF.out.gl.len, HT2.out.gl.len⟩
  have hL0 : 0 < L.length := by rw [HLm.out.1]; omega
  have hM0 : 0 < M.length := by rw [HLm.out.2]; omega
  have HD1 := Lib.hid (HF.out.ge.depth_one hL0)
  have HD2 := Lib.hid (HF.out.ge.depth_both HT2.out.ge hL0 hM0)
  have HGE1 := Lib.hid (outer1_ge.graft HF.out.ge (a := 1) (by simp [outer1]) hL0)
  have HGE2 := Lib.hid (outer2_ge.graft HT2.out.ge (a := 2) (by simp [outer2]) hM0)
  clear hL0 hM0
  have HG1 : Hid (Calls Try.prog 17 #[.slice (some ⟨S + 1, 0, none⟩) 2 2, .int .i64 (1 : Int), .slice (some ⟨g1, 0, none⟩) m1 k1] X2 (NewG X2 (graftF outer1 1 L))) :=
    graft_at (a := 1) go1 (HF.out.gl.below gb1) (outer1_ge.small (by simp [outer1])) (HF.out.sm (by omega)) (by omega) (by omega) (by omega)
  have H1 := Lib.hid (And.intro (HF.out.below gb1) (And.intro (HT2.out.below gb1) (below_step HC2.out gb1)))
  clear go1 gb1
  go_wp2_with fail
  refine HG1.out.mono ?_
  intro e x3 h3
  obtain ⟨T1, hT1⟩ : ∃ z, graftF outer1 1 L = z := ⟨_, rfl⟩
  rw [hT1] at h3
  have ht1 : T1.length = 1 + m1 := by rw [← hT1, HGE1.out.2, HLm.out.1]; simp [outer1]
  have HE1 : Hid (graftF outer1 1 L = T1) := hT1
  obtain ⟨A5, k5, rfl, q1, q2, hg5, hb5⟩ := h3.out
  rw [ht1] at hg5 q1
  rw [ht1]
  have H3 := Lib.hid (And.intro hg5 (And.intro (H1.out.1.below hb5) (And.intro (H1.out.2.1.below hb5) (below_step H1.out.2.2 hb5))))
  clear h3 hg5 hb5 ht1 hT1 hX1 hX2 hS gs1 HG1 H1
  obtain ⟨S2, hS⟩ : ∃ z, x3.heap.size = z := ⟨_, rfl⟩
  obtain ⟨Y1, hX1⟩ : ∃ z, x3.alloc (.cells #[.int .i64 1, .int .i64 2] 3) = z := ⟨_, rfl⟩
  obtain ⟨Y2, hX2⟩ : ∃ z, Y1.alloc (.cells #[.int .i64 2, .int .i64 0, .string ⟨#[33, 33, 115, 101, 113]⟩, .string ⟨#[]⟩, .string ⟨#[]⟩, .int .i64 0, .int .i64 0, .int .i64 0, .int .i64 0, .slice (some ⟨S2, 0, none⟩) 2 2, .int .i64 1, .int .i64 0, .string ⟨#[]⟩, .string ⟨#[]⟩, .string ⟨#[]⟩, .int .i64 0, .int .i64 0, .int .i64 0, .int .i64 0, .slice none 0 0, .int .i64 1, .int .i64 0, .string ⟨#[]⟩, .string ⟨#[]⟩, .string ⟨#[]⟩, .int .i64 0, .int .i64 0, .int .i64 0, .int .i64 0, .slice none 0 0] 31) = z := ⟨_, rfl⟩
  obtain ⟨go2, gb2, gs2⟩ := outer2_gl hS hX1 hX2
  have HG2 : Hid (Calls Try.prog 17 #[.slice (some ⟨S2 + 1, 0, none⟩) 3 3, .int .i64 (2 : Int), .slice (some ⟨g2, 0, none⟩) m2 k2] Y2 (NewG Y2 (graftF outer2 2 M))) :=
    graft_at (a := 2) go2 (H3.out.2.2.1.gl.below gb2) (outer2_ge.small (by simp [outer2])) (HT2.out.sm (by omega)) (by omega) (by omega) (by omega)
  have H4 := Lib.hid (And.intro (H3.out.1.below gb2) (And.intro (H3.out.2.1.below gb2) (And.intro (H3.out.2.2.1.below gb2) (below_step H3.out.2.2.2 gb2))))
  clear go2 gb2 H3
  go_wp2_with fail
  refine HG2.out.mono ?_
  intro e x4 h4
  obtain ⟨T2, hT2⟩ : ∃ z, graftF outer2 2 M = z := ⟨_, rfl⟩
  rw [hT2] at h4
  have ht2 : T2.length = 2 + m2 := by rw [← hT2, HGE2.out.2, HLm.out.2]; simp [outer2]
  have HE2 : Hid (graftF outer2 2 M = T2 ∧ T2.length = 2 + m2) := ⟨hT2, ht2⟩
  have sT2 : Hid (Small T2) := by show Small T2; rw [← HE2.out.1]; exact HGE2.out.1.small (by rw [HE2.out.1, HE2.out.2]; omega)
  obtain ⟨A6, k6, rfl, q3, q4, hg6, hb6⟩ := h4.out
  rw [ht2] at hg6 q3
  rw [ht2]
  have H5 := Lib.hid (And.intro (H4.out.1.below hb6) (And.intro (H4.out.2.1.below hb6) (And.intro (H4.out.2.2.1.below hb6) (And.intro (below_step H4.out.2.2.2 hb6) hg6))))
  clear h4 hg6 hb6 ht2 hT2 hX1 hX2 hS gs2 HG2 H4
  have HG3 : Hid (Calls Try.prog 17 #[.slice A6 (2 + m2) k6, .int .i64 (1 : Int), .slice (some ⟨g1, 0, none⟩) m1 k1] x4 (NewG x4 (graftF T2 1 L))) :=
    graft_at (a := 1) H5.out.2.2.2.2 H5.out.2.1.gl sT2.out (HF.out.sm (by omega)) (by omega) (by omega) (by omega)
  go_wp2_with fail
  refine HG3.out.mono ?_
  intro e x5 h5
  obtain ⟨T3, hT3⟩ : ∃ z, graftF T2 1 L = z := ⟨_, rfl⟩
  rw [hT3] at h5
  have HD3 : Hid (depthF T3 = 1 + max (depthF L) (depthF M) ∧ (∃ G, GE T3 G) ∧ T3.length = 1 + m1 + m2) := by
    have := HD2.out
    rw [HE2.out.1, hT3, HLm.out.1, HLm.out.2] at this
    exact this
  have ht3 : T3.length = 1 + m1 + m2 := HD3.out.2.2
  obtain ⟨t3, hh3⟩ : ∃ z, 1 + m1 + m2 = z := ⟨_, rfl⟩
  have hsum : (1 : Int) + (m1 : Int) + (m2 : Int) = (t3 : Int) := by omega
  have hle3 : t3 ≤ 200000 := by omega
  obtain ⟨A7, k7, rfl, q5, q6, hg7, hb7⟩ := h5.out
  rw [ht3, hh3] at hg7 q5
  rw [ht3, hh3]
  have H6 := Lib.hid (And.intro (H5.out.1.below hb7) (And.intro (H5.out.2.1.below hb7) (And.intro (H5.out.2.2.1.below hb7) (And.intro (below_step H5.out.2.2.2.1 hb7) hg7))))
  have HH3 := Lib.hid hh3
  have sT3 : Hid (Small T3) := by show Small T3; obtain ⟨G, hG⟩ := HD3.out.2.1; exact hG.small (by rw [HD3.out.2.2]; omega)
  have sT1 : Hid (Small T1) := by show Small T1; rw [← HE1.out]; exact HGE1.out.1.small (by rw [HGE1.out.2, HLm.out.1]; simp [outer1]; omega)
  have HVA : Hid (tValidF T3 = true) := by show _ = _; obtain ⟨G, hG⟩ := HD3.out.2.1; exact hG.valid (by rw [HD3.out.2.2]; omega)
  obtain ⟨dl, hdl⟩ : ∃ z, depthF L = z := ⟨_, rfl⟩
  obtain ⟨dm, hdm⟩ : ∃ z, depthF M = z := ⟨_, rfl⟩
  have HDL : Hid (depthF L = dl ∧ depthF M = dm ∧ depthF T1 = dl + 1 ∧ depthF T3 = 1 + max dl dm) := ⟨hdl, hdm, by rw [← HE1.out, HD1.out, hdl], by rw [HD3.out.1, hdl, hdm]⟩
  have hbl := HF.out.ge.depth_bound
  have hbm := HT2.out.ge.depth_bound
  rw [hdl, HLm.out.1] at hbl
  rw [hdm, HLm.out.2] at hbm
  obtain ⟨l0, l1⟩ := hbl
  obtain ⟨l2, l3⟩ := hbm
  clear h5 hg7 hb7 ht3 hT3 HG3 H5 hdl hdm hh3
  -- depths
  have C1 : Hid (∀ V, Below x5.heap.size x5 V → Calls Try.prog 18 #[.slice A5 (1 + m1) k5] V fun e w' => e = .returned (.int .i64 (dl + 1)) ∧ Below V.heap.size V w') := fun V hV => by
    have := tdepth_at (H6.out.1.below hV) sT1.out (by omega)
    rwa [HDL.out.2.2.1] at this
  have C2 : Hid (∀ V, Below x5.heap.size x5 V → Calls Try.prog 18 #[.slice (some ⟨g1, 0, none⟩) m1 k1] V fun e w' => e = .returned (.int .i64 dl) ∧ Below V.heap.size V w') := fun V hV => by
    have := tdepth_at (H6.out.2.1.gl.below hV) (HF.out.sm (by omega)) (by omega)
    rwa [HDL.out.1] at this
  have C3 : Hid (∀ V, Below x5.heap.size x5 V → Calls Try.prog 18 #[.slice (some ⟨g2, 0, none⟩) m2 k2] V fun e w' => e = .returned (.int .i64 dm) ∧ Below V.heap.size V w') := fun V hV => by
    have := tdepth_at (H6.out.2.2.1.gl.below hV) (HT2.out.sm (by omega)) (by omega)
    rwa [HDL.out.2.1] at this
  have C4 : Hid (∀ V, Below x5.heap.size x5 V → Calls Try.prog 18 #[.slice A7 t3 k7] V fun e w' => e = .returned (.int .i64 (1 + max dl dm)) ∧ Below V.heap.size V w') := fun V hV => by
    have := tdepth_at (H6.out.2.2.2.2.below hV) sT3.out (by omega)
    rwa [HDL.out.2.2.2] at this
  have C5 : Hid (∀ V, Below x5.heap.size x5 V → Calls Try.prog 19 #[.slice A7 t3 k7] V fun e w' => e = .returned (.bool true) ∧ Below V.heap.size V w') := fun V hV => by
    have := gvalid_at (H6.out.2.2.2.2.below hV) (fun x hx => (sT3.out x hx).1) (by omega)
    rwa [HVA.out] at this
  have HB : Hid (Below w.heap.size w x5) := H6.out.2.2.2.1
  clear H6 HDL HVA sT1 sT2 sT3 HD1 HD2 HD3 HGE1 HGE2 HE1 HE2
  obtain ⟨mx, hmx⟩ : ∃ z, max dl dm = z := ⟨_, rfl⟩
  have hmb : 0 ≤ mx ∧ mx ≤ 65537 := by omega
  obtain ⟨mb1, mb2⟩ := hmb
  rw [hmx] at C4
  have HMX := Lib.hid hmx
  clear hmx
  go_wp2_with fail
  refine (C1.out x5 (Below.refl _ _)).mono ?_
  rintro e y1 ⟨rfl, z1⟩
  go_wp2_with fail
  refine (C2.out y1 z1).mono ?_
  rintro e y2 ⟨rfl, z2⟩
  have z2' := below_step z1 z2
  go_wp2_with fail
  refine (C4.out y2 z2').mono ?_
  rintro e y3 ⟨rfl, z3⟩
  have z3' := below_step z2' z3
  go_wp2_with fail
  refine (C2.out y3 z3').mono ?_
  rintro e y4 ⟨rfl, z4⟩
  have z4' := below_step z3' z4
  go_wp2_with fail
  refine (C3.out y4 z4').mono ?_
  rintro e y5 ⟨rfl, z5⟩
  have z5' := below_step z4' z5
  clear C1 C2 C3 C4 z1 z2 z3 z4 z5 z2' z3' z4'
  have HZ : Hid (Below w.heap.size w y5 ∧ Below x5.heap.size x5 y5) := ⟨below_step HB.out z5', z5'⟩
  clear z5' HB
  by_cases hd : dl < dm
  case' pos => obtain rfl : mx = dm := by have := HMX.out; omega
  case' neg => obtain rfl : mx = dl := by have := HMX.out; omega
  all_goals
    clear HMX
    go_wp2_with fail
    refine (C5.out y5 HZ.out.2).mono ?_
    rintro e y6 ⟨rfl, z6⟩
    have HZ6 := Lib.hid (below_step HZ.out.1 z6)
    clear C5 z6
    go_wp2_with fail
    refine (twakes_at y6).mono ?_
    rintro e y7 ⟨rfl, z7⟩
    have HZ7 := Lib.hid (below_step HZ6.out z7)
    clear z7
    go_wp2_with fail
    go_ret
    exact ⟨rfl, HZ7.out⟩


set_option maxRecDepth 100000 in
theorem lifted (os : Os) (started : os.Started) (H : Type) (enc : TypeId × Value → H) :
    ReturnsInHanded {} Try.checked os 4 .any (Rows.treeDepthsSpec.pre6 enc Try.prog Try.f4 Rows.treeDepthsRow.domain false) (Rows.treeDepthsSpec.post enc Try.prog Try.f4 false true false false) := by
  refine returnsInHanded_of_change (C := Try.checked) own started (by kernel_rfl) Try.func4
    (ChangeSpec.witness6 (enc := enc) (C := Try.checked) false ⟨#[], #[.agg #[.slice none 0 0, .slice none 0 0], .agg #[.slice none 0 0, .slice none 0 0]], []⟩ 8 (by kernel_rfl) (by kernel_rfl) (by kernel_rfl) (by kernel_rfl)) ?_
  intro W base args ds gs before hval0 hW hcnd _
  have hval : ∀ (j : Nat) t v, Try.f4.params[j]? = some t → args[j]? = some v → Value.okWide Try.prog W .any base t v := hval0
  have hW' := hW
  obtain ⟨p, q, hA0, hV, rfl, hfz, hnd⟩ := hW
  have hA : DataW.TrodAll enc Try.prog W 0 (fun _ => true) true Try.f4.params.toList args.toList ds p := hA0
  rw [Try.params4] at hA hval
  obtain ⟨v0, vs0, d0, ds0, p0, q0, hargs, rfl, rfl, h0, r0⟩ := trodAll_cons hA
  obtain ⟨v1, vs1, d1, ds1, p1, q1, rfl, rfl, rfl, h1, r1⟩ := trodAll_cons r0
  obtain ⟨rfl, rfl, rfl⟩ := trodAll_nil r1
  obtain rfl : args = #[v0, v1] := by cases args; simp_all
  obtain ⟨rfl, rfl⟩ := trodVars_none hV
  have k0 := h0
  have lt0 : ∀ x ∈ p0, x.block < W.heap.size := by obtain ⟨m, hm⟩ := k0; exact DataW.trod_lt m _ _ _ hm
  have w0 := open_plan (hval 0 25 v0 rfl rfl) h0
  have k1 := h1
  have lt1 : ∀ x ∈ p1, x.block < W.heap.size := by obtain ⟨m, hm⟩ := k1; exact DataW.trod_lt m _ _ _ hm
  have w1 := open_plan (hval 1 25 v1 rfl rfl) h1
  clear hA0 hval0
  refine (walk v0 v1 W w0 w1).mono fun e W' ⟨he, bel⟩ => ?_
  subst he
  exact ⟨_, rfl, _, _, _, [], _, [], hW', trodAll_mk1 (shut_bool Try.underlying4 _), (trodAll_cons_mk (Below.trod laidOut (by kernel_rfl) (of_decide_eq_true (by kernel_rfl)) k0 bel lt0) (trodAll_cons_mk (Below.trod laidOut (by kernel_rfl) (of_decide_eq_true (by kernel_rfl)) k1 bel lt1) trodAll_mk0)), rfl, bel.frame _, fun h => by cases h⟩

theorem over : Rows.treeDepthsRow.holds Try.pinned (OpenSpec.ofChange Rows.treeDepthsSpec) :=
  OpenClaim.holds_of_wide 4 Try.f4 rfl rfl rfl rfl rfl rfl rfl ⟨rfl, rfl, rfl, rfl, rfl⟩ rfl rfl rfl rfl rfl (by kernel_rfl) Try.func4 (by kernel_rfl)
    (of_decide_eq_true (by kernel_rfl)) (by unfold Func.isWrapper; first | (rw [if_pos (by decide +kernel)]; kernel_rfl) | (rw [if_neg (by decide +kernel)]; exact ⟨rfl, rfl⟩))
    (fun os started H enc _ => lifted os started H enc)

theorem proved : Rows.TreeDepthsSaid := over
#print axioms proved
end Go.Proofs.Ytcnnbbgfmilblaa.treeDepths
