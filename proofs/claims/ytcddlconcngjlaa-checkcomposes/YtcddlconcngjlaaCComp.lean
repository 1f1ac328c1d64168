/-
  Proved: the law 'scholium/scholiumlaw14.CheckComposes' returns true for every input, and every argument reads as it did before. No conditions.
-/
import Derived.Test.YtcddlconcngjlaaRows
import Derived.Test.YtcddlconcngjlaaNN
import Derived.Test.YtcddlconcngjlaaNH
import Derived.WalkKit
import Derived.ProofKit
import Derived.OpenShut
import Derived.ShutString
import Derived.ChangeOld
import Derived.Below
namespace Go.Proofs.Ytcddlconcngjlaa.checkComposes
open Go.ChangeShapes Go.WideShapes Go.ChangeAt Go.RowKit
open Go.ChangeMaps (open_string shut_string)
set_option linter.unusedVariables false

theorem own : ownKnob Try.prog.godebug = none := by kernel_rfl
theorem laidOut : laidOutB Try.prog = true := by kernel_rfl

/-- A slice of integers that came in. -/
def IsRow (k : IntKind) (w : World) (a : Option Addr) (len cap : Nat) (zs : List Int) : Prop :=
  (a = none ∧ len = 0 ∧ cap = 0 ∧ zs = []) ∨
  ∃ x, a = some x ∧ len ≤ cap ∧ cap ≤ maxLen ∧ zs.length = cap ∧ (∀ i, i < zs.length → w.cell? (x.add i) = some (.int k (zs.getD i 0))) ∧ ∀ n ∈ zs, (Lit.int k n).wf = true

set_option linter.unusedSimpArgs false
set_option maxRecDepth 100000
set_option maxHeartbeats 16000000
theorem row_num {w : World} {a : Option Addr} {len cap : Nat} {zs : List Int} (h : IsRow .i64 w a len cap zs) : NumIn w a len ∧ len ≤ cap ∧ cap ≤ 9223372036854775807 := by
  rcases h with ⟨rfl, rfl, rfl, rfl⟩ | ⟨x, rfl, h1, h2, h3, h4, h5⟩
  · exact ⟨fun h => by omega, by omega, by omega⟩
  · unfold maxLen at h2
    refine ⟨fun h0 => ?_, h1, by omega⟩
    have hc0 := h4 0 (by omega)
    obtain ⟨b, off, spot⟩ := x
    have hspot : spot = none := by simpa [Addr.add] using World.cell?_spot hc0
    subst hspot
    refine ⟨b, off, rfl, fun k hk => ?_⟩
    have hc := h4 k (by omega)
    rw [add_plain] at hc
    have hw := h5 _ (List.mem_of_getElem? (getD_at (zs := zs) (k := k) (by omega)))
    exact ⟨_, hc, bounds_i64 hw⟩
theorem walk (a0 : Value) (a1 : Option Addr) (len1 cap1 : Nat) (z1 : List Int) (w : World) (w0 : IsPlan w a0) (w1 : IsRow .i64 w a1 len1 cap1 z1) :
    Calls Try.prog 6 #[a0, .slice a1 len1 cap1] w fun e w' => e = .returned (.bool true) ∧ Below w.heap.size w w' := by
  obtain ⟨A1, n1, c1, A2, n2, c2, rfl, hp⟩ := w0
  obtain ⟨hm, hm1, hm2⟩ := row_num w1
  clear w1
  have HP := Lib.hid (And.intro hp hm)
  clear hp hm
  obtain ⟨W0, hW0⟩ : ∃ W0, w.alloc (.cells #[.slice A1 n1 c1, .slice A2 n2 c2] 25) = W0 := ⟨_, rfl⟩
  have HB0 : Hid (Below w.heap.size w W0) := by show Below _ _ _; rw [← hW0]; exact (Below.refl _ _).alloc (Nat.le_refl _) _
  have pq0 : W0.cell? ⟨w.heap.size, 0, none⟩ = some (.slice A1 n1 c1) := by rw [← hW0, World.cell?_alloc_mark]; rfl
  have pq1 : W0.cell? ⟨w.heap.size, 1, none⟩ = some (.slice A2 n2 c2) := by rw [← hW0, World.cell?_alloc_mark]; rfl
  go_enter Try.func6, Try.ntmps6
  go_wp2_with fail
  clear hW0 pq0 pq1
  refine (cktree2_at HP.out.1 HP.out.2 hm1 hm2 HB0.out).mono ?_
  rintro e W1 ⟨g, n, cap, l, E, rfl, hn0, hnl, hnc, hcm, hgl, hge, htx, hbb⟩
  have HB1 := Lib.hid (below_step HB0.out hbb)
  have HF := Lib.hid (And.intro hgl (And.intro (hge.small (by rw [hgl.len]; omega)) (And.intro htx.1 hge)))
  have HKD := Lib.hid htx.2
  clear hgl hge htx hbb HP HB0 hm1 hm2
  have CP := Lib.hid (compose_at HF.out.1 HF.out.2.2.1 HF.out.2.1 (by omega))
  go_wp2_with fail
  refine CP.out.mono ?_
  clear CP
  intro e W2 hP
  obtain ⟨A, m, c, T, q, rfl, hT, hTk, hm, hb, hw⟩ : ∃ (A : Option Addr) (m c : Nat) (T : List Th) (q : Int), e = .returned (.tuple #[.slice A m c, .int .i64 q]) ∧ TL W2 A m c T ∧ (∀ x ∈ T, x.kids.length ≤ 1000000) ∧ m ≤ 1000000 ∧ Below W1.heap.size W1 W2 ∧ ((q ≠ 0 ∧ q = (ckF l).1 ∧ T = [] ∧ m = 0) ∨ (q = 0 ∧ (ckF l).1 = 0 ∧ T = cmpL (nbrF l) l)) := by
    rcases hP with ⟨h1, rfl, hb⟩ | ⟨h1, A, m, c, rfl, hT, hb⟩
    · exact ⟨none, 0, 0, [], _, rfl, ⟨rfl, Nat.le_refl _, by omega, fun i x h => by simp at h⟩, fun x h => by (cases h), by omega, hb, .inl ⟨h1, rfl, rfl, rfl⟩⟩
    · exact ⟨A, m, c, _, 0, rfl, hT, cmp_kids_len (fun x hx => (HF.out.2.1 x hx).1), by have := cmpL_len (nbrF l) l; rw [hT.len, HF.out.1.len] at this; omega, hb, .inr ⟨rfl, h1, rfl⟩⟩
  have HB2 := Lib.hid (And.intro (below_step HB1.out hb) hb)
  have HT := Lib.hid (And.intro hT (And.intro hTk (And.intro hm hw)))
  clear hP hT hTk hm hb hw
  have CQ := Lib.hid (rcompose_at (HF.out.1.below HB2.out.2) HF.out.2.2.2 HF.out.2.2.1 HKD.out HF.out.2.1 (by omega) (by omega))
  go_wp2_with fail
  refine CQ.out.mono ?_
  clear CQ
  intro e W3 hP
  obtain ⟨A', c', rfl, hT', hb⟩ : ∃ (A' : Option Addr) (c' : Nat), e = .returned (.tuple #[.slice A' m c', .int .i64 q]) ∧ TL W3 A' m c' T ∧ Below W2.heap.size W2 W3 := by
    rcases hP with ⟨h1, rfl, hb⟩ | ⟨h1, A', m', c', rfl, hT', hb⟩
    · rcases HT.out.2.2.2 with ⟨_, rfl, rfl, rfl⟩ | ⟨_, h2, _⟩
      · exact ⟨none, 0, rfl, ⟨rfl, Nat.le_refl _, by omega, fun i x h => by simp at h⟩, hb⟩
      · exact absurd h2 h1
    · rcases HT.out.2.2.2 with ⟨h2, h3, _, _⟩ | ⟨rfl, _, rfl⟩
      · exact absurd (h3.trans h1) h2
      · obtain rfl : m' = m := by rw [← hT'.len, ← HT.out.1.len]
        exact ⟨A', c', rfl, hT', hb⟩
  have HB3 := Lib.hid (below_step HB2.out.1 hb)
  have CT := Lib.hid (kthings_at (HT.out.1.below hb) hT' HT.out.2.1 HT.out.2.2.1)
  clear hP hT' hb
  have qq : (q == q) = true := by rw [beq_iff_eq]
  go_wp2_with fail
  refine CT.out.mono ?_
  clear CT
  rintro e W4 ⟨rfl, hb⟩
  have HB4 := Lib.hid (below_step HB3.out hb)
  clear hb
  go_wp2_with fail
  refine (cwakes_at W4).mono ?_
  rintro e W5 ⟨rfl, hb⟩
  have HB5 := Lib.hid (below_step HB4.out hb)
  clear hb
  go_wp2_with fail
  go_ret
  exact ⟨rfl, HB5.out⟩


set_option maxRecDepth 100000 in
theorem lifted (os : Os) (started : os.Started) (H : Type) (enc : TypeId × Value → H) :
    ReturnsInHanded {} Try.checked os 6 .any (Rows.checkComposesSpec.pre6 enc Try.prog Try.f6 Rows.checkComposesRow.domain false) (Rows.checkComposesSpec.post enc Try.prog Try.f6 false true false false) := by
  refine returnsInHanded_of_change (C := Try.checked) own started (by kernel_rfl) Try.func6
    (ChangeSpec.witness6 (enc := enc) (C := Try.checked) false ⟨#[], #[.agg #[.slice none 0 0, .slice none 0 0], .slice none 0 0], []⟩ 8 (by kernel_rfl) (by kernel_rfl) (by kernel_rfl) (by kernel_rfl)) ?_
  intro W base args ds gs before hval0 hW hcnd _
  have hval : ∀ (j : Nat) t v, Try.f6.params[j]? = some t → args[j]? = some v → Value.okWide Try.prog W .any base t v := hval0
  have hW' := hW
  obtain ⟨p, q, hA0, hV, rfl, hfz, hnd⟩ := hW
  have hA : DataW.TrodAll enc Try.prog W 0 (fun _ => true) true Try.f6.params.toList args.toList ds p := hA0
  rw [Try.params6] at hA hval
  obtain ⟨v0, vs0, d0, ds0, p0, q0, hargs, rfl, rfl, h0, r0⟩ := trodAll_cons hA
  obtain ⟨v1, vs1, d1, ds1, p1, q1, rfl, rfl, rfl, h1, r1⟩ := trodAll_cons r0
  obtain ⟨rfl, rfl, rfl⟩ := trodAll_nil r1
  obtain rfl : args = #[v0, v1] := by cases args; simp_all
  obtain ⟨rfl, rfl⟩ := trodVars_none hV
  have k0 := h0
  have lt0 : ∀ x ∈ p0, x.block < W.heap.size := by obtain ⟨m, hm⟩ := k0; exact DataW.trod_lt m _ _ _ hm
  have w0 := open_plan (hval 0 25 v0 rfl rfl) h0
  obtain ⟨a1, len1, cap1, rfl⟩ := okWide_slice Try.underlying22 (hval 1 22 v1 rfl rfl)
  have k1 := h1
  have lt1 : ∀ x ∈ p1, x.block < W.heap.size := by obtain ⟨m, hm⟩ := k1; exact DataW.trod_lt m _ _ _ hm
  obtain ⟨z1, w1⟩ : ∃ zs, IsRow .i64 W a1 len1 cap1 zs := by
    obtain ⟨fuel, hf⟩ := h1
    rcases open_ints Try.underlying22 Try.underlying3 (by kernel_rfl) hf with ⟨hcs, _⟩ | ⟨x, l, c, zs, hcs, _, hl, hm, hz, _, hcell, hwz⟩
    · simp [Value.cells] at hcs
      obtain ⟨rfl, rfl, rfl⟩ := hcs
      exact ⟨[], .inl ⟨rfl, rfl, rfl, rfl⟩⟩
    · simp [Value.cells] at hcs
      obtain ⟨rfl, rfl, rfl⟩ := hcs
      exact ⟨zs, .inr ⟨_, rfl, hl, hm, by simpa using hz, hcell, hwz⟩⟩
  clear hA0 hval0
  refine (walk v0 a1 len1 cap1 z1 W w0 w1).mono fun e W' ⟨he, bel⟩ => ?_
  subst he
  exact ⟨_, rfl, _, _, _, [], _, [], hW', trodAll_mk1 (shut_bool Try.underlying4 _), (trodAll_cons_mk (Below.trod laidOut (by kernel_rfl) (of_decide_eq_true (by kernel_rfl)) k0 bel lt0) (trodAll_cons_mk (Below.trod laidOut (by kernel_rfl) (of_decide_eq_true (by kernel_rfl)) k1 bel lt1) trodAll_mk0)), rfl, bel.frame _, fun h => by cases h⟩

theorem over : Rows.checkComposesRow.holds Try.pinned (OpenSpec.ofChange Rows.checkComposesSpec) :=
  OpenClaim.holds_of_wide 6 Try.f6 rfl rfl rfl rfl rfl rfl rfl ⟨rfl, rfl, rfl, rfl, rfl⟩ rfl rfl rfl rfl rfl (by kernel_rfl) Try.func6 (by kernel_rfl)
    (of_decide_eq_true (by kernel_rfl)) (by unfold Func.isWrapper; first | (rw [if_pos (by decide +kernel)]; kernel_rfl) | (rw [if_neg (by decide +kernel)]; exact ⟨rfl, rfl⟩))
    (fun os started H enc _ => lifted os started H enc)

theorem proved : Rows.CheckComposesSaid := over
#print axioms proved
end Go.Proofs.Ytcddlconcngjlaa.checkComposes
