/-
  Proved: the law 'scholium/scholiumlaw13.TreeTells' returns true for every input, and every argument reads as it did before. No conditions.
-/
import Derived.Test.YtcddlconcngjlaaRows
import Derived.Test.YtcddlconcngjlaaPP
import Derived.Test.YtcddlconcngjlaaPN
import Derived.Test.YtcddlconcngjlaaPH
import Derived.WalkKit
import Derived.ProofKit
import Derived.OpenShut
import Derived.ShutString
import Derived.ChangeOld
import Derived.Below
namespace Go.Proofs.Ytcddlconcngjlaa.treeTells
open Go.ChangeShapes Go.WideShapes Go.ChangeAt Go.RowKit
open Go.ChangeMaps (open_string shut_string)
set_option linter.unusedVariables false

theorem own : ownKnob Try.prog.godebug = none := by kernel_rfl
theorem laidOut : laidOutB Try.prog = true := by kernel_rfl

/-- A slice of integers that came in. -/
def IsRow (k : IntKind) (w : World) (a : Option Addr) (len cap : Nat) (zs : List Int) : Prop :=
  (a = none ∧ len = 0 ∧ cap = 0 ∧ zs = []) ∨
  ∃ x, a = some x ∧ len ≤ cap ∧ cap ≤ maxLen ∧ zs.length = cap ∧ (∀ i, i < zs.length → w.cell? (x.add i) = some (.int k (zs.getD i 0))) ∧ ∀ n ∈ zs, (Lit.int k n).wf = true

set_option linter.unusedVariables false
set_option linter.unusedSimpArgs false
set_option maxRecDepth 100000
set_option maxHeartbeats 16000000
theorem walk (a0 : Value) (a1 : Value) (a2 : Int) (a3 : Int) (w : World) (w0 : IsPlan w a0) (w1 : IsPlan w a1) (w2 : (Lit.int .i64 a2).wf = true) (w3 : (Lit.int .i64 a3).wf = true) :
    Calls Try.prog 3 #[a0, a1, .int .i64 a2, .int .i64 a3] w fun e w' => e = .returned (.bool true) ∧ Below w.heap.size w w' := by
  obtain ⟨A1, n1, c1, A2, n2, c2, rfl, hp⟩ := w0
  obtain ⟨A3, n3, c3, A4, n4, c4, rfl, hq⟩ := w1
  have HP := Lib.hid (And.intro hp hq)
  clear hp hq
  obtain ⟨b0, hb0⟩ : ∃ z, w.heap.size = z := ⟨_, rfl⟩
  obtain ⟨W0, hW0⟩ : ∃ W0, w.alloc (.cells #[.slice A1 n1 c1, .slice A2 n2 c2] 25) = W0 := ⟨_, rfl⟩
  have bb0 : Below w.heap.size w W0 := by rw [← hW0]; exact (Below.refl _ _).alloc (Nat.le_refl _) _
  have u0 : W0.cell? ⟨b0, 0, none⟩ = some (.slice A1 n1 c1) := by rw [← hW0, ← hb0, World.cell?_alloc_mark]; rfl
  have u1 : W0.cell? ⟨b0, 1, none⟩ = some (.slice A2 n2 c2) := by rw [← hW0, ← hb0, World.cell?_alloc_mark]; rfl
  have s0 : W0.heap.size = b0 + 1 := by rw [← hW0, ← hb0]; simp
  obtain ⟨W1, hW1⟩ : ∃ W1, W0.alloc (.cells #[.slice A3 n3 c3, .slice A4 n4 c4] 25) = W1 := ⟨_, rfl⟩
  have bb1 : Below W0.heap.size W0 W1 := by rw [← hW1]; exact (Below.refl _ _).alloc (Nat.le_refl _) _
  have d0 := cell_keep bb1 u0
  have d1 := cell_keep bb1 u1
  have d2 : W1.cell? ⟨b0 + 1, 0, none⟩ = some (.slice A3 n3 c3) := by rw [← hW1, ← s0, World.cell?_alloc_mark]; rfl
  have d3 : W1.cell? ⟨b0 + 1, 1, none⟩ = some (.slice A4 n4 c4) := by rw [← hW1, ← s0, World.cell?_alloc_mark]; rfl
  have HB1 := Lib.hid (below_step bb0 bb1)
  clear u0 u1
  go_enter Try.func3, Try.ntmps3
  go_upto_region 1 with fail
  clear hW0 hW1 hb0 s0 bb0 bb1
  have hBD : Below W1.heap.size W1 W1.drew := (Below.refl _ _).drew
  have HBD : Hid (Below w.heap.size w W1.drew) := HB1.out.drew
  go_wp2_with fail
  refine gen_act fun a0 hA => ?_
  have hsz : a0.tmps.size = 129 := by rw [hA]; rfl
  have eA : a0.eval (.tmp 4) = .pointer (some ⟨b0, 0, none⟩) := by rw [hA]; rfl
  have eB : a0.eval (.tmp 5) = .pointer (some ⟨b0 + 1, 0, none⟩) := by rw [hA]; rfl
  have hS : Below W1.heap.size W1 W1.drew := hBD
  refine region_gate (fun U => Below W1.heap.size W1 U) 3 (by kernel_rfl) ?_
  change wpGate _ _ _ _ _ _ 6 _ _ _
  refine gate_take (i := 2) (v := (.agg #[.slice A3 n3 c3, .slice A4 n4 c4])) rfl (by rfl) (by kernel_rfl) (by kernel_rfl) (by kernel_rfl) (by kernel_rfl) (by kernel_rfl) (fun _ _ _ h => h) rfl (fun U hU => loadP_exec _ (.tmp 5) rfl _ U _ _ _ (by simp [evp_same, evp_ne, szp, hsz, eA, eB]) (cell_keep hU d2) (cell_keep hU d3)) hS ?_
  refine gate_one (i := 0) (by kernel_rfl) ?_
  refine wpOp_value (w' := W1.drew) (v := (.agg #[.slice A1 n1 c1, .slice A2 n2 c2])) rfl rfl (loadP_exec _ (.tmp 4) rfl _ W1.drew _ _ _ (by simp [evp_same, evp_ne, szp, hsz, eA, eB]) (cell_keep hS d0) (cell_keep hS d1)) ⟨fun _ => hS, ?_⟩
  refine gate_one (i := 1) (by kernel_rfl) ?_
  refine wpOp_callX rfl rfl (made_run _ _ (.tmp 15) _ rfl _ (by simp [evp_same, evp_ne, szp, hsz, eA, eB]) _) (made_tree2 HP.out.1 HBD.out) ?_
  rintro e v1 ⟨g1, m1, k1, L, E, rfl, hn1, hn1', hk1, hk1', ⟨ht1, hnr⟩, hz1⟩
  have HC1 := Lib.hid (below_step HBD.out hz1)
  have hS1 : Below W1.heap.size W1 v1 := below_step hBD hz1
  have HT1 := Lib.hid ht1
  have HNR := Lib.hid hnr
  clear ht1 hz1 hnr
  refine ⟨_, rfl, fun _ => hS1, ?_⟩
  refine gate_one (i := 3) (by kernel_rfl) ?_
  refine wpOp_callX rfl rfl (made_run _ _ (.tmp 17) _ rfl _ (by simp [evp_same, evp_ne, szp, hsz, eA, eB]) _) (made_tree2 HP.out.2 HC1.out) ?_
  rintro e v2 ⟨g2, m2, k2, M, F, rfl, hn2, hn2', hk2, hk2', ⟨ht2, _⟩, hz2⟩
  have HC2 := Lib.hid (below_step HC1.out hz2)
  have HT2 := Lib.hid ht2
  have HF := Lib.hid (HT1.out.below hz2)
  clear ht2 hz2
  refine ⟨_, rfl, fun h => Bool.noConfusion (show true = false from h), ?_⟩
  have R1 : Hid (1 ≤ m1 ∧ m1 ≤ 65537 ∧ 1 ≤ m2 ∧ m2 ≤ 65537) := ⟨hn1, hn1', hn2, hn2'⟩
  refine gate_one (i := 4) (by kernel_rfl) ?_
  refine wpOp_value (w' := v2) (v := .slice (some ⟨g1, 0, none⟩) m1 k1) rfl rfl (assign_exec _ (.tmp 16) rfl _ _ (by simp [evp_same, evp_ne, szp, hsz]) v2) ⟨fun h => Bool.noConfusion (show true = false from h), ?_⟩
  refine gate_one (i := 5) (by kernel_rfl) ?_
  refine wpOp_value (w' := v2) (v := .slice (some ⟨g2, 0, none⟩) m2 k2) rfl rfl (assign_exec _ (.tmp 18) rfl _ _ (by simp [evp_same, evp_ne, szp, hsz]) v2) ⟨fun h => Bool.noConfusion (show true = false from h), ?_⟩
  refine kgate_gen fun a1 hA1 => ?_
  have hA2 : a1 = ((((((a0.put (some 17) (.agg #[.slice A3 n3 c3, .slice A4 n4 c4])).put (some 15) (.agg #[.slice A1 n1 c1, .slice A2 n2 c2])).put (some 16) (.slice (some ⟨g1, 0, none⟩) m1 k1)).put (some 18) (.slice (some ⟨g2, 0, none⟩) m2 k2)).put (some 9) (.slice (some ⟨g1, 0, none⟩) m1 k1)).put (some 10) (.slice (some ⟨g2, 0, none⟩) m2 k2)) := hA1
  clear hA1
  refine gate_done (by kernel_rfl) ?_ _
  subst hA2 hA
  clear hsz eA eB hS hS1 d0 d1 d2 d3 hBD
  simp only [Act.put, List.setIfInBounds_toArray, List.set_cons_zero, List.set_cons_succ]
  have hb2 := bounds_i64 w2
  have hb3 := bounds_i64 w3
  have hLl : Hid (L.length = m1) := HF.out.gl.len
  have hMl : Hid (M.length = m2) := HT2.out.gl.len
  go_upto_if 21 with fail
  go_cut [2] (fun v V => ∃ z : Int, v = .int .i64 z ∧ V = v2)
  case first =>
    cases hd : (a2.tmod 5 != 4) with
    | true =>
      go_wp2_with fail
      refine (within_nat a2 m1 v2 hn1 (by omega) hb2).mono ?_
      rintro e w3 ⟨a, ha, rfl, rfl⟩
      go_wp2_with fail
      go_meet
      exact ⟨_, rfl, by trivial⟩
    | false =>
      go_wp2_with fail
      go_meet
      exact ⟨_, rfl, by trivial⟩
  case rest =>
    obtain ⟨z, rfl, rfl⟩ := hcut
    obtain ⟨V0, hV0⟩ : ∃ y, y = wc := ⟨_, rfl⟩
    subst hV0
    go_wp2_with fail
    refine (within_nat a3 2000 V0 (by omega) (by omega) hb3).mono ?_
    rintro e w3 ⟨y, hy, rfl, rfl⟩
    obtain ⟨V, hV⟩ : ∃ y, y = V0 := ⟨_, rfl⟩
    subst hV
    have wy : IntKind.i64.wrap ((y : Int) - 1000) = (y : Int) - 1000 := IntWalk.i64_in _ (by omega)
    obtain ⟨by1, hby⟩ : ∃ x : Int, (y : Int) - 1000 = x := ⟨_, rfl⟩
    have hby1 : -1000 ≤ by1 ∧ by1 ≤ 1000 := by omega
    rw [hby] at wy
    have sL := Lib.hid (HF.out.sm (by omega))
    have sM := Lib.hid (HT2.out.sm (by omega))
    have kL := Lib.hid (HF.out.kl (by omega))
    have kM := Lib.hid (HT2.out.kl (by omega))
    obtain ⟨O, hO⟩ : ∃ x, subF L z = x := ⟨_, rfl⟩
    have hOl : O.length ≤ 1000000 ∧ ∀ x ∈ O, x.kids.length ≤ 1000000 := by
      rw [← hO]
      unfold subF
      split
      · refine ⟨by rw [List.length_map, List.length_drop, List.length_take, hLl.out]; omega, fun x hx => ?_⟩
        obtain ⟨x', hx', rfl⟩ := List.mem_map.1 hx
        have := kL.out x' (List.mem_of_mem_take (List.mem_of_mem_drop hx'))
        unfold Gn.mapK
        rw [List.length_map]
        exact this
      · exact ⟨by simp, fun x hx => by simp at hx⟩
    have HO := Lib.hid (And.intro hO hOl)
    clear hO hOl
    -- Sub
    go_wp2_with fail
    refine (sub_at HF.out.gl sL.out (by omega)).mono ?_
    intro e v3 h3
    rw [HO.out.1] at h3
    obtain ⟨A5, k5, rfl, q1, q2, hg5, hb5, ho5⟩ := h3.out0
    have B3 := Lib.hid hb5
    have G5 := Lib.hid (And.intro hg5 ho5)
    obtain ⟨ol, hol⟩ : ∃ x, O.length = x := ⟨_, rfl⟩
    rw [hol] at G5 q1
    rw [hol]
    have HOL := Lib.hid hol
    clear h3 hg5 hb5 ho5 hol
    go_wp2_with fail
    refine (rsub_at (HF.out.gl.below B3.out) HF.out.ge (by omega) z).mono ?_
    intro e v4 h4
    rw [HO.out.1] at h4
    obtain ⟨A6, k6, rfl, q3, q4, hg6, hb6, ho6⟩ := h4.out0
    have B4 := Lib.hid (below_step B3.out hb6)
    have G6 := Lib.hid (And.intro (G5.out.1.below hb6) (And.intro hg6 ho6))
    rw [HOL.out] at G6 q3
    rw [HOL.out]
    clear h4 hg6 hb6 ho6
    go_wp2_with fail
    refine (gnodes_same G6.out.1 G6.out.2.1 G5.out.2 G6.out.2.2 (by rw [← HOL.out]; exact HO.out.2.1) HO.out.2.2).mono ?_
    rintro e v5 ⟨rfl, hb7⟩
    have B5 := Lib.hid (below_step B4.out hb7)
    clear hb7 G5 G6 q1 q2 q3 q4
    -- Shift
    go_wp2_with fail
    refine (shift_at (HF.out.gl.below B5.out) sL.out (by omega) HNR.out (by omega) (by omega)).mono ?_
    intro e v6 h6
    obtain ⟨O2, hO2⟩ : ∃ x, L.map (shG by1) = x := ⟨_, rfl⟩
    rw [hO2] at h6
    have hO2l : O2.length = m1 ∧ ∀ x ∈ O2, x.kids.length ≤ 1000000 := by
      rw [← hO2]
      refine ⟨by rw [List.length_map, hLl.out], fun x hx => ?_⟩
      obtain ⟨x', hx', rfl⟩ := List.mem_map.1 hx
      exact kL.out x' hx'
    have HO2 := Lib.hid (And.intro hO2 hO2l)
    clear hO2 hO2l
    obtain ⟨A7, k7, rfl, q1, q2, hg7, hb7, ho7⟩ := h6.out0
    have B6 := Lib.hid (below_step B5.out hb7)
    have G7 := Lib.hid (And.intro hg7 ho7)
    rw [HO2.out.2.1] at G7 q1
    rw [HO2.out.2.1]
    clear h6 hg7 hb7 ho7
    go_wp2_with fail
    refine (rshift_at (HF.out.gl.below B6.out) sL.out (by omega) HNR.out (by omega) (by omega)).mono ?_
    intro e v7 h7
    rw [HO2.out.1] at h7
    obtain ⟨A8, k8, rfl, q3, q4, hg8, hb8, ho8⟩ := h7.out0
    have B7 := Lib.hid (below_step B6.out hb8)
    have G8 := Lib.hid (And.intro (G7.out.1.below hb8) (And.intro hg8 ho8))
    rw [HO2.out.2.1] at G8 q3
    rw [HO2.out.2.1]
    clear h7 hg8 hb8 ho8
    go_wp2_with fail
    refine (gnodes_same G8.out.1 G8.out.2.1 G7.out.2 G8.out.2.2 (by omega) HO2.out.2.2).mono ?_
    rintro e v8 ⟨rfl, hb9⟩
    have B8 := Lib.hid (below_step B7.out hb9)
    clear hb9 G7 G8 q1 q2 q3 q4
    -- Depth
    obtain ⟨d, hd⟩ : ∃ x, depthF L = x := ⟨_, rfl⟩
    have HD := Lib.hid hd
    have hdd : (d != d) = false := bne_self_eq_false d
    clear hd
    go_wp2_with fail
    refine (tdepth_at (HF.out.gl.below B8.out) sL.out (by omega)).mono ?_
    rintro e v9 ⟨rfl, hb9⟩
    rw [HD.out]
    have B9 := Lib.hid (below_step B8.out hb9)
    clear hb9
    go_wp2_with fail
    refine (rdepth_at (HF.out.gl.below B9.out) HF.out.ge (by omega) (by omega)).mono ?_
    rintro e v10 ⟨rfl, rfl⟩
    rw [HD.out]
    -- Same
    go_wp2_with fail
    refine (treeSame_at (HF.out.gl.below B9.out) (HT2.out.gl.below B9.out) (by omega) (by omega) kL.out kM.out).mono ?_
    rintro e v11 ⟨s1, rfl, hs1, hb11⟩
    have B11 := Lib.hid (below_step B9.out hb11)
    clear hb11
    go_wp2_with fail
    refine (ktree_any (HF.out.gl.below B11.out) (HT2.out.gl.below B11.out) (by omega) (by omega) kL.out kM.out).mono ?_
    rintro e v12 ⟨s2, rfl, hs2, hb12⟩
    have B12 := Lib.hid (below_step B11.out hb12)
    clear hb12
    obtain rfl : s1 = s2 := Bool.eq_iff_iff.2 (hs1.trans hs2.symm)
    have hss : (s1 != s1) = false := bne_self_eq_false s1
    clear hs1 hs2
    go_wp2_with fail
    refine (treeSame_at (HF.out.gl.below B12.out) (HF.out.gl.below B12.out) (by omega) (by omega) kL.out kL.out).mono ?_
    rintro e v13 ⟨s3, rfl, hs3, hb13⟩
    obtain rfl : s3 = true := hs3.2 (SameL.refl L)
    have B13 := Lib.hid (below_step B12.out hb13)
    clear hb13 hs3
    -- Parent
    go_wp2_with fail
    refine (parent_at (HF.out.gl.below B13.out) sL.out HF.out.ge (by omega) z).mono ?_
    intro e v14 h14
    obtain ⟨p, q, hp, hpq, hpw⟩ : ∃ p q : Int, RPar L z p q ∧ e = .returned (.tuple #[.int .i64 p, .int .i64 q]) ∧ v13 = v14 := by
      have hx : ∃ p q, RPar L z p q := by
        by_cases hx : ∀ x ∈ L, z ∉ x.kids
        · exact ⟨-1, -1, .inl ⟨rfl, rfl, hx⟩⟩
        · simp only [Classical.not_forall, Classical.not_not] at hx
          obtain ⟨x, hx, hk⟩ := hx
          obtain ⟨i, hi⟩ := List.mem_iff_getElem?.1 hx
          obtain ⟨j, hj⟩ := List.mem_iff_getElem?.1 hk
          exact ⟨_, _, .inr ⟨i, j, x, rfl, rfl, hi, hj⟩⟩
      obtain ⟨p, q, hr⟩ := hx
      exact ⟨p, q, hr, par_same HF.out.ge h14 hr⟩
    obtain rfl := hpw
    have H14 := Lib.hid h14
    subst hpq
    clear hp h14
    go_wp2_with fail
    refine (rparent_at (HF.out.gl.below B13.out) sL.out (by omega) z).mono ?_
    rintro e v15 ⟨p2, q2, rfl, HR, rfl⟩
    obtain ⟨rfl, rfl⟩ : p = p2 ∧ q = q2 := by
      have h := (par_same HF.out.ge H14.out HR.out).1
      injection h with h
      simp only [Value.tuple.injEq, Array.mk.injEq, List.cons.injEq, Value.int.injEq, true_and, and_true] at h
      exact h
    have hpp : (p != p) = false := bne_self_eq_false p
    have hqq : (q != q) = false := bne_self_eq_false q
    have hpe : (p == p) = true := beq_self_eq_true p
    have hqe : (q == q) = true := beq_self_eq_true q
    clear H14 HR
    by_cases hin : 0 ≤ z ∧ z < (m1 : Int)
    · obtain ⟨a, rfl⟩ : ∃ a : Nat, z = (a : Int) := ⟨z.toNat, by omega⟩
      have ha : a < m1 := by omega
      have hn0 : ¬ ((a : Int) < 0) := by omega
      have hn1 : ¬ ((m1 : Int) ≤ (a : Int)) := by omega
      have haL : Hid (a < L.length) := by show a < L.length; rw [hLl.out]; exact ha
      obtain ⟨G, hG⟩ : ∃ x, graftF L a M = x := ⟨_, rfl⟩
      have hgr := HF.out.ge.graft HT2.out.ge haL.out (by rw [hMl.out]; omega)
      have hgl : G.length ≤ 200000 ∧ 0 < G.length := by
        have h1 := hgr.2
        have h2 := HF.out.ge.lt haL.out
        rw [hG, hLl.out, hMl.out] at h1
        rw [hLl.out] at h2
        omega
      rw [hG] at hgr
      have HGR := Lib.hid (And.intro hgr.1 (And.intro hgl hG))
      have sG := Lib.hid (hgr.1.small (by omega))
      obtain ⟨gl, hgll⟩ : ∃ x, G.length = x := ⟨_, rfl⟩
      have HGL := Lib.hid hgll
      rw [hgll] at hgl
      have hg0 := hgl.1
      clear hgr hG hgll hgl
      go_wp2_with fail
      refine (graft_at (HF.out.gl.below B13.out) (HT2.out.gl.below B13.out) sL.out sM.out (by omega) (by omega) ha).mono ?_
      intro e v16 h16
      rw [HGR.out.2.2] at h16
      obtain ⟨A9, k9, rfl, q1, q2, hg9, hb9, ho9⟩ := h16.out0
      have B16 := Lib.hid (below_step B13.out hb9)
      rw [HGL.out] at hg9 q1
      rw [HGL.out]
      have G9 := Lib.hid (And.intro hg9 ho9)
      clear h16 hg9 hb9 ho9
      go_wp2_with fail
      refine (rgraft_at (HF.out.gl.below B16.out) (HT2.out.gl.below B16.out) HF.out.ge sM.out (by omega) (by omega) ha).mono ?_
      intro e v17 h17
      rw [HGR.out.2.2] at h17
      obtain ⟨A10, k10, rfl, q3, q4, hg10, hb10, ho10⟩ := h17.out0
      have B17 := Lib.hid (below_step B16.out hb10)
      rw [HGL.out] at hg10 q3
      rw [HGL.out]
      have G10 := Lib.hid (And.intro (G9.out.1.below hb10) (And.intro hg10 ho10))
      have g9b : ∃ g, A9 = some ⟨g, 0, none⟩ := by
        obtain ⟨g, o, e1, _⟩ := G9.out.1.at_ 0 _ (List.getElem?_eq_getElem HGR.out.2.1.2)
        obtain rfl := G9.out.2 g o e1
        exact ⟨g, e1⟩
      have g10b : ∃ g, A10 = some ⟨g, 0, none⟩ := by
        obtain ⟨g, o, e1, _⟩ := hg10.at_ 0 _ (List.getElem?_eq_getElem HGR.out.2.1.2)
        obtain rfl := ho10 g o e1
        exact ⟨g, e1⟩
      clear h17 hg10 hb10 ho10
      obtain ⟨g9, rfl⟩ := g9b
      obtain ⟨g10, rfl⟩ := g10b
      go_wp2_with fail
      refine (ktree_any G10.out.1 G10.out.2.1 (by omega) (by omega) (fun x hx => (sG.out x hx).1) (fun x hx => (sG.out x hx).1)).mono ?_
      rintro e v18 ⟨s4, rfl, hs4, hb18⟩
      obtain rfl : s4 = true := hs4.2 (SameL.refl G)
      have B18 := Lib.hid (below_step B17.out hb18)
      clear hb18 hs4 G9 G10
      go_wp2_with fail
      refine (graft_at (HF.out.gl.below B18.out) (HT2.out.gl.below B18.out) sL.out sM.out (by omega) (by omega) ha).mono ?_
      intro e v19 h19
      rw [HGR.out.2.2] at h19
      obtain ⟨A11, k11, rfl, q5, q6, hg11, hb11, ho11⟩ := h19.out0
      have B19 := Lib.hid (below_step B18.out hb11)
      rw [HGL.out] at hg11 q5
      rw [HGL.out]
      have G11 := Lib.hid hg11
      clear h19 hg11 hb11 ho11
      have HV : Hid (tValidF G = true) := HGR.out.1.valid HGR.out.2.1.2
      go_wp2_with fail
      refine (gvalid_at G11.out (fun x hx => (sG.out x hx).1) (by omega)).mono ?_
      rintro e v20 ⟨rfl, hb20⟩
      rw [HV.out]
      have B20 := Lib.hid (below_step B19.out hb20)
      clear hb20 G11
      go_wp2_with fail
      refine (twakes_at v20).mono ?_
      rintro e v21 ⟨rfl, hb21⟩
      have B21 := Lib.hid (below_step B20.out hb21)
      clear hb21
      go_wp2_with fail
      go_ret
      exact ⟨rfl, below_step HC2.out B21.out⟩
    · by_cases hz0 : z < 0
      · go_wp2_with fail
        refine (twakes_at v13).mono ?_
        rintro e v21 ⟨rfl, hb21⟩
        have B21 := Lib.hid (below_step B13.out hb21)
        clear hb21
        go_wp2_with fail
        go_ret
        exact ⟨rfl, below_step HC2.out B21.out⟩
      · have hz1 : (m1 : Int) ≤ z := by omega
        go_wp2_with fail
        refine (twakes_at v13).mono ?_
        rintro e v21 ⟨rfl, hb21⟩
        have B21 := Lib.hid (below_step B13.out hb21)
        clear hb21
        go_wp2_with fail
        go_ret
        exact ⟨rfl, below_step HC2.out B21.out⟩


set_option maxRecDepth 100000 in
theorem lifted (os : Os) (started : os.Started) (H : Type) (enc : TypeId × Value → H) :
    ReturnsInHanded {} Try.checked os 3 .any (Rows.treeTellsSpec.pre6 enc Try.prog Try.f3 Rows.treeTellsRow.domain false) (Rows.treeTellsSpec.post enc Try.prog Try.f3 false true false false) := by
  refine returnsInHanded_of_change (C := Try.checked) own started (by kernel_rfl) Try.func3
    (ChangeSpec.witness6 (enc := enc) (C := Try.checked) false ⟨#[], #[.agg #[.slice none 0 0, .slice none 0 0], .agg #[.slice none 0 0, .slice none 0 0], .int .i64 0, .int .i64 0], []⟩ 8 (by kernel_rfl) (by kernel_rfl) (by kernel_rfl) (by kernel_rfl)) ?_
  intro W base args ds gs before hval0 hW hcnd _
  have hval : ∀ (j : Nat) t v, Try.f3.params[j]? = some t → args[j]? = some v → Value.okWide Try.prog W .any base t v := hval0
  have hW' := hW
  obtain ⟨p, q, hA0, hV, rfl, hfz, hnd⟩ := hW
  have hA : DataW.TrodAll enc Try.prog W 0 (fun _ => true) true Try.f3.params.toList args.toList ds p := hA0
  rw [Try.params3] at hA hval
  obtain ⟨v0, vs0, d0, ds0, p0, q0, hargs, rfl, rfl, h0, r0⟩ := trodAll_cons hA
  obtain ⟨v1, vs1, d1, ds1, p1, q1, rfl, rfl, rfl, h1, r1⟩ := trodAll_cons r0
  obtain ⟨v2, vs2, d2, ds2, p2, q2, rfl, rfl, rfl, h2, r2⟩ := trodAll_cons r1
  obtain ⟨v3, vs3, d3, ds3, p3, q3, rfl, rfl, rfl, h3, r3⟩ := trodAll_cons r2
  obtain ⟨rfl, rfl, rfl⟩ := trodAll_nil r3
  obtain rfl : args = #[v0, v1, v2, v3] := by cases args; simp_all
  obtain ⟨rfl, rfl⟩ := trodVars_none hV
  have k0 := h0
  have lt0 : ∀ x ∈ p0, x.block < W.heap.size := by obtain ⟨m, hm⟩ := k0; exact DataW.trod_lt m _ _ _ hm
  have w0 := open_plan (hval 0 25 v0 rfl rfl) h0
  have k1 := h1
  have lt1 : ∀ x ∈ p1, x.block < W.heap.size := by obtain ⟨m, hm⟩ := k1; exact DataW.trod_lt m _ _ _ hm
  have w1 := open_plan (hval 1 25 v1 rfl rfl) h1
  obtain ⟨a2, rfl, rfl, rfl, w2⟩ := open_int Try.underlying3 (hval 2 3 v2 rfl rfl) h2
  obtain ⟨a3, rfl, rfl, rfl, w3⟩ := open_int Try.underlying3 (hval 3 3 v3 rfl rfl) h3
  clear hA0 hval0
  refine (walk v0 v1 a2 a3 W w0 w1 w2 w3).mono fun e W' ⟨he, bel⟩ => ?_
  subst he
  exact ⟨_, rfl, _, _, _, [], _, [], hW', trodAll_mk1 (shut_bool Try.underlying4 _), (trodAll_cons_mk (Below.trod laidOut (by kernel_rfl) (of_decide_eq_true (by kernel_rfl)) k0 bel lt0) (trodAll_cons_mk (Below.trod laidOut (by kernel_rfl) (of_decide_eq_true (by kernel_rfl)) k1 bel lt1) (trodAll_cons_mk (shut_int Try.underlying3 w2) (trodAll_cons_mk (shut_int Try.underlying3 w3) trodAll_mk0)))), rfl, bel.frame _, fun h => by cases h⟩

theorem over : Rows.treeTellsRow.holds Try.pinned (OpenSpec.ofChange Rows.treeTellsSpec) :=
  OpenClaim.holds_of_wide 3 Try.f3 rfl rfl rfl rfl rfl rfl rfl ⟨rfl, rfl, rfl, rfl, rfl⟩ rfl rfl rfl rfl rfl (by kernel_rfl) Try.func3 (by kernel_rfl)
    (of_decide_eq_true (by kernel_rfl)) (by unfold Func.isWrapper; first | (rw [if_pos (by decide +kernel)]; kernel_rfl) | (rw [if_neg (by decide +kernel)]; exact ⟨rfl, rfl⟩))
    (fun os started H enc _ => lifted os started H enc)

theorem proved : Rows.TreeTellsSaid := over
#print axioms proved
end Go.Proofs.Ytcddlconcngjlaa.treeTells
