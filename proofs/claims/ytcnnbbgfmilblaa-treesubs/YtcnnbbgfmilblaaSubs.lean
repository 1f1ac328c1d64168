/-
  Proved: the law 'scholium/scholiumlaw13.TreeSubs' returns true for every input, and every argument reads as it did before. No conditions.
-/
import Derived.Test.YtcnnbbgfmilblaaRows
import Derived.Test.YtcnnbbgfmilblaaMA
import Derived.Test.YtcnnbbgfmilblaaMH
import Derived.Test.YtcnnbbgfmilblaaMM
import Derived.WalkKit
import Derived.ProofKit
import Derived.OpenShut
import Derived.ShutString
import Derived.ChangeOld
import Derived.Below
namespace Go.Proofs.Ytcnnbbgfmilblaa.treeSubs
open Go.ChangeShapes Go.WideShapes Go.ChangeAt Go.RowKit
open Go.ChangeMaps (open_string shut_string)
set_option linter.unusedVariables false

theorem own : ownKnob Try.prog.godebug = none := by kernel_rfl
theorem laidOut : laidOutB Try.prog = true := by kernel_rfl

/-- A slice of integers that came in. -/
def IsRow (k : IntKind) (w : World) (a : Option Addr) (len cap : Nat) (zs : List Int) : Prop :=
  (a = none ∧ len = 0 ∧ cap = 0 ∧ zs = []) ∨
  ∃ x, a = some x ∧ len ≤ cap ∧ cap ≤ maxLen ∧ zs.length = cap ∧ (∀ i, i < zs.length → w.cell? (x.add i) = some (.int k (zs.getD i 0))) ∧ ∀ n ∈ zs, (Lit.int k n).wf = true

theorem row_off {W : World} {B n size : Nat} {e : TypeId} {A : Option Addr} {cap : Nat} {xs : List Value} (h : W.ownsRow B e size (.slice A n cap) n xs) : ∀ g o, A = some ⟨g, o, none⟩ → o = 0 := by
  intro g o hA
  subst hA
  rcases h.2 with ⟨e1, _⟩ | ⟨g', cap', cur, e1, _⟩
  · cases e1
  · simp only [Value.slice.injEq, Option.some.injEq, Addr.mk.injEq] at e1
    exact e1.1.2.1
theorem walk (a0 : Value) (a1 : Int) (a2 : Int) (w : World) (w0 : IsPlan w a0) (w1 : (Lit.int .i64 a1).wf = true) (w2 : (Lit.int .i64 a2).wf = true) :
    Calls Try.prog 8 #[a0, .int .i64 a1, .int .i64 a2] w fun e w' => e = .returned (.bool true) ∧ Below w.heap.size w w' := by
  obtain ⟨A1, n1, c1, A2, n2, c2, rfl, hp⟩ := w0
  have hb1 := bounds_i64 w1
  have hb2 := bounds_i64 w2
  have HP := Lib.hid hp
  clear w1 w2 hp
  obtain ⟨W0, hW0⟩ : ∃ W0, w.alloc (.cells #[.slice A1 n1 c1, .slice A2 n2 c2] 25) = W0 := ⟨_, rfl⟩
  have HB0 : Hid (Below w.heap.size w W0) := by show Below _ _ _; rw [← hW0]; exact (Below.refl _ _).alloc (Nat.le_refl _) _
  have pq0 : W0.cell? ⟨w.heap.size, 0, none⟩ = some (.slice A1 n1 c1) := by rw [← hW0, World.cell?_alloc_mark]; rfl
  have pq1 : W0.cell? ⟨w.heap.size, 1, none⟩ = some (.slice A2 n2 c2) := by rw [← hW0, World.cell?_alloc_mark]; rfl
  go_enter Try.func8, Try.ntmps8
  go_wp2_with fail
  clear hW0 pq0 pq1
  refine (made_at HP.out HB0.out).mono ?_
  rintro e W1 ⟨g, n, cap, P, rfl, hP, hn, hT, hbb⟩
  have hends := ends_of hT.tree
  have hsm := hends.small (by have := hT.len; omega) (fun x hx => by have := hT.kids x hx; omega)
  have hge := hends.ge
  have hgl := hP.gl hn
  have hnl : n ≤ 65537 := by rw [← hn, ← lst_len]; exact hT.len
  have hn0 : 1 ≤ n := by rw [← hn, ← lst_len]; exact hT.pos
  obtain ⟨L, hLL⟩ : ∃ z, (lst P).map gn = z := ⟨_, rfl⟩
  obtain ⟨E, hEE⟩ : ∃ z, tEnd (lst P) = z := ⟨_, rfl⟩
  rw [hLL] at hsm hge hgl
  rw [hEE] at hge
  have HB1 := Lib.hid (below_step HB0.out hbb)
  have HF := Lib.hid (And.intro hgl (And.intro hsm hge))
  clear hbb hT hP hends hsm hge hgl hLL hEE hn HB0
  go_wp2_with fail
  refine (within_nat a1 n W1 hn0 (by omega) hb1).mono ?_
  rintro e W2 ⟨a, ha, rfl, rfl⟩
  have HS := Lib.hid (HF.out.2.2.sub (a := a) (by rw [HF.out.1.len]; exact ha))
  go_wp2_with fail
  refine (sub_at HF.out.1 HF.out.2.1 (by omega)).mono ?_
  rintro e W3 ⟨A3, m, cap3, Q, rfl, p1, p2, p3, p4, p5, p6⟩
  obtain ⟨M, hM⟩ : ∃ z, subF L (a : Int) = z := ⟨_, rfl⟩
  have hMl : M.length = m := by rw [← hM, ← p5, ← p4]; simp [glst]
  have hSM : Small M := by
    have := HF.out.2.1
    intro x hx
    rw [← hM, HF.out.2.2.sub_eq (a := a) (by rw [HF.out.1.len]; exact ha)] at hx
    obtain ⟨y, hy, rfl⟩ := List.mem_map.1 hx
    have hy2 := List.mem_of_mem_take (List.mem_of_mem_drop hy)
    obtain ⟨q1, q2⟩ := this y hy2
    refine ⟨by show (y.kids.map _).length ≤ _; rw [List.length_map]; exact q1, fun k hk => ?_⟩
    obtain ⟨k', hk', rfl⟩ := List.mem_map.1 hk
    have := q2 k' hk'
    have hp := HF.out.2.2.pos y hy2 k' hk'
    show -4611686018427387904 ≤ k' - (a : Int) ∧ k' - (a : Int) ≤ 4611686018427387904
    omega
  have hGM := HS.out
  rw [hM] at hGM p5
  have hm0 : 1 ≤ m := by have := hGM.2.1; have := hGM.2.2.2; omega
  have hm1 : m ≤ 65537 := by have := hGM.2.1; have := hGM.2.2.1; rw [HF.out.1.len] at this; omega
  have hq := p3.gl p4
  rw [p5] at hq
  have HM := Lib.hid (And.intro hq (And.intro hSM (And.intro hGM.1 (And.intro hMl hM))))
  have HB3 := Lib.hid (below_step HB1.out p6)
  have HF3 := Lib.hid (HF.out.1.below p6)
  have dm : ((m : Int) == 0) = false := by rw [beq_eq_false_iff_ne]; omega
  clear p3 p4 p5 p6 hMl hSM hGM hq hM HS
  go_wp2_with fail
  refine (gvalid_at HM.out.1 (fun x hx => (HM.out.2.1 x hx).1) (by omega)).mono ?_
  rintro e W4 ⟨rfl, h4⟩
  rw [HM.out.2.2.1.valid (by rw [HM.out.2.2.2.1]; omega)]
  have HB4 := Lib.hid (below_step HB3.out h4)
  have HF4 := Lib.hid (HF3.out.below h4)
  have HM4 := Lib.hid (HM.out.1.below h4)
  clear h4 dm
  go_wp2_with fail
  refine (within_nat a2 m W4 hm0 (by omega) hb2).mono ?_
  rintro e W5 ⟨i, hi, rfl, rfl⟩
  go_wp2_with fail
  refine (sub_at HM4.out HM.out.2.1 (by omega)).mono ?_
  rintro e W5 ⟨A5, m5, cap5, Q5, rfl, p1, p2, p3, p4, p5, p6⟩
  have HB5 := Lib.hid (below_step HB4.out p6)
  have HF5 := Lib.hid (HF4.out.below p6)
  have HM5 := Lib.hid (HM4.out.below p6)
  have HQ5 := Lib.hid (And.intro p3 (And.intro p4 p5))
  clear p3 p4 p5 p6
  go_wp2_with fail
  refine (sub_at HF5.out HF.out.2.1 (by omega)).mono ?_
  rintro e W6 ⟨A6, m6, cap6, Q6, rfl, r1, r2, r3, r4, r5, r6⟩
  have heq : glst Q5 = glst Q6 := by
    rw [HQ5.out.2.2, r5, ← HM.out.2.2.2.2]
    have := HF.out.2.2.sub_sub (a := a) (i := i) (by rw [HF.out.1.len]; exact ha) (by rw [HM.out.2.2.2.2, HM.out.2.2.2.1]; exact hi)
    rw [this]
    congr 1
  have hmm : m6 = m5 := by
    rw [← r4, ← HQ5.out.2.1]
    have : (glst Q6).length = (glst Q5).length := by rw [heq]
    simpa [glst] using this
  subst hmm
  have k5 := (HQ5.out.1.below r6).gl HQ5.out.2.1
  have k6 := r3.gl r4
  rw [← heq] at k6
  have hsm5 : ∀ x ∈ glst Q5, x.kids.length ≤ 1000000 := by
    intro x hx
    have hl5 := k5.len
    rw [HQ5.out.2.2] at hx
    have hmM : i < M.length := by rw [HM.out.2.2.2.1]; exact hi
    rw [HM.out.2.2.1.sub_eq hmM] at hx
    obtain ⟨y, hy, rfl⟩ := List.mem_map.1 hx
    show (y.kids.map _).length ≤ _
    rw [List.length_map]
    exact (HM.out.2.1 y (List.mem_of_mem_take (List.mem_of_mem_drop hy))).1
  have hm6 : m6 ≤ 1000000 := by
    have hl5 := k5.len
    rw [HQ5.out.2.2] at hl5
    have hmM : i < M.length := by rw [HM.out.2.2.2.1]; exact hi
    obtain ⟨_, s2, s3, _⟩ := HM.out.2.2.1.sub hmM
    rw [HM.out.2.2.2.1] at s3
    omega
  have HKN := Lib.hid (gnodes_same k5 k6 (row_off (HQ5.out.2.1 ▸ (HQ5.out.1.below r6).row)) (row_off (r4 ▸ r3.row)) hm6 hsm5)
  have HB6 := Lib.hid (below_step HB5.out r6)
  have HF6 := Lib.hid (HF5.out.below r6)
  have HM6 := Lib.hid (HM5.out.below r6)
  clear r3 r4 r5 r6 k5 k6 hsm5 hm6 heq HQ5
  go_wp2_with fail
  refine HKN.out.mono ?_
  clear HKN
  rintro e W7 ⟨rfl, h7⟩
  have HB7 := Lib.hid (below_step HB6.out h7)
  have HF7 := Lib.hid (HF6.out.below h7)
  have HM7 := Lib.hid (HM6.out.below h7)
  clear h7
  go_wp2_with fail
  refine (tdepth_at HM7.out HM.out.2.1 (by omega)).mono ?_
  rintro e W8 ⟨rfl, h8⟩
  have HB8 := Lib.hid (below_step HB7.out h8)
  have HF8 := Lib.hid (HF7.out.below h8)
  clear h8
  go_wp2_with fail
  refine (tdepth_at HF8.out HF.out.2.1 (by omega)).mono ?_
  rintro e W9 ⟨rfl, h9⟩
  have HB9 := Lib.hid (below_step HB8.out h9)
  clear h9
  have hdle : depthF M ≤ depthF L := by rw [← HM.out.2.2.2.2]; exact HF.out.2.2.depth_sub (by rw [HF.out.1.len]; exact ha)
  have hdd : decide (depthF M ≤ depthF L) = true := decide_eq_true hdle
  go_wp2_with fail
  refine (twakes_at W9).mono ?_
  rintro e W10 ⟨rfl, h10⟩
  have HB10 := Lib.hid (below_step HB9.out h10)
  clear h10
  go_wp2_with fail
  go_ret
  exact ⟨rfl, HB10.out⟩


set_option maxRecDepth 100000 in
theorem lifted (os : Os) (started : os.Started) (H : Type) (enc : TypeId × Value → H) :
    ReturnsInHanded {} Try.checked os 8 .any (Rows.treeSubsSpec.pre6 enc Try.prog Try.f8 Rows.treeSubsRow.domain false) (Rows.treeSubsSpec.post enc Try.prog Try.f8 false true false false) := by
  refine returnsInHanded_of_change (C := Try.checked) own started (by kernel_rfl) Try.func8
    (ChangeSpec.witness6 (enc := enc) (C := Try.checked) false ⟨#[], #[.agg #[.slice none 0 0, .slice none 0 0], .int .i64 0, .int .i64 0], []⟩ 8 (by kernel_rfl) (by kernel_rfl) (by kernel_rfl) (by kernel_rfl)) ?_
  intro W base args ds gs before hval0 hW hcnd _
  have hval : ∀ (j : Nat) t v, Try.f8.params[j]? = some t → args[j]? = some v → Value.okWide Try.prog W .any base t v := hval0
  have hW' := hW
  obtain ⟨p, q, hA0, hV, rfl, hfz, hnd⟩ := hW
  have hA : DataW.TrodAll enc Try.prog W 0 (fun _ => true) true Try.f8.params.toList args.toList ds p := hA0
  rw [Try.params8] at hA hval
  obtain ⟨v0, vs0, d0, ds0, p0, q0, hargs, rfl, rfl, h0, r0⟩ := trodAll_cons hA
  obtain ⟨v1, vs1, d1, ds1, p1, q1, rfl, rfl, rfl, h1, r1⟩ := trodAll_cons r0
  obtain ⟨v2, vs2, d2, ds2, p2, q2, rfl, rfl, rfl, h2, r2⟩ := trodAll_cons r1
  obtain ⟨rfl, rfl, rfl⟩ := trodAll_nil r2
  obtain rfl : args = #[v0, v1, v2] := by cases args; simp_all
  obtain ⟨rfl, rfl⟩ := trodVars_none hV
  have k0 := h0
  have lt0 : ∀ x ∈ p0, x.block < W.heap.size := by obtain ⟨m, hm⟩ := k0; exact DataW.trod_lt m _ _ _ hm
  have w0 := open_plan (hval 0 25 v0 rfl rfl) h0
  obtain ⟨a1, rfl, rfl, rfl, w1⟩ := open_int Try.underlying3 (hval 1 3 v1 rfl rfl) h1
  obtain ⟨a2, rfl, rfl, rfl, w2⟩ := open_int Try.underlying3 (hval 2 3 v2 rfl rfl) h2
  clear hA0 hval0
  refine (walk v0 a1 a2 W w0 w1 w2).mono fun e W' ⟨he, bel⟩ => ?_
  subst he
  exact ⟨_, rfl, _, _, _, [], _, [], hW', trodAll_mk1 (shut_bool Try.underlying4 _), (trodAll_cons_mk (Below.trod laidOut (by kernel_rfl) (of_decide_eq_true (by kernel_rfl)) k0 bel lt0) (trodAll_cons_mk (shut_int Try.underlying3 w1) (trodAll_cons_mk (shut_int Try.underlying3 w2) trodAll_mk0))), rfl, bel.frame _, fun h => by cases h⟩

theorem over : Rows.treeSubsRow.holds Try.pinned (OpenSpec.ofChange Rows.treeSubsSpec) :=
  OpenClaim.holds_of_wide 8 Try.f8 rfl rfl rfl rfl rfl rfl rfl ⟨rfl, rfl, rfl, rfl, rfl⟩ rfl rfl rfl rfl rfl (by kernel_rfl) Try.func8 (by kernel_rfl)
    (of_decide_eq_true (by kernel_rfl)) (by unfold Func.isWrapper; first | (rw [if_pos (by decide +kernel)]; kernel_rfl) | (rw [if_neg (by decide +kernel)]; exact ⟨rfl, rfl⟩))
    (fun os started H enc _ => lifted os started H enc)

theorem proved : Rows.TreeSubsSaid := over
#print axioms proved
end Go.Proofs.Ytcnnbbgfmilblaa.treeSubs
