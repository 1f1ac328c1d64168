/-
  Proved: the law 'scholium/scholiumlaw13.TreeParents' returns true for every input, and every argument reads as it did before. No conditions.
-/
import Derived.Test.YtcnnbbgfmilblaaRows
import Derived.Test.YtcnnbbgfmilblaaMA
import Derived.Test.YtcnnbbgfmilblaaMH
import Derived.Test.YtcnnbbgfmilblaaMM
import Derived.WalkKit
import Derived.ProofKit
import Derived.OpenShut
import Derived.ShutString
import Derived.ChangeOld
import Derived.Below
namespace Go.Proofs.Ytcnnbbgfmilblaa.treeParents
open Go.ChangeShapes Go.WideShapes Go.ChangeAt Go.RowKit
open Go.ChangeMaps (open_string shut_string)
set_option linter.unusedVariables false

theorem own : ownKnob Try.prog.godebug = none := by kernel_rfl
theorem laidOut : laidOutB Try.prog = true := by kernel_rfl

/-- A slice of integers that came in. -/
def IsRow (k : IntKind) (w : World) (a : Option Addr) (len cap : Nat) (zs : List Int) : Prop :=
  (a = none ∧ len = 0 ∧ cap = 0 ∧ zs = []) ∨
  ∃ x, a = some x ∧ len ≤ cap ∧ cap ≤ maxLen ∧ zs.length = cap ∧ (∀ i, i < zs.length → w.cell? (x.add i) = some (.int k (zs.getD i 0))) ∧ ∀ n ∈ zs, (Lit.int k n).wf = true

set_option maxRecDepth 100000
set_option maxHeartbeats 16000000
theorem walk (a0 : Value) (w : World) (w0 : IsPlan w a0) :
    Calls Try.prog 3 #[a0] w fun e w' => e = .returned (.bool true) ∧ Below w.heap.size w w' := by
  obtain ⟨A1, n1, c1, A2, n2, c2, rfl, hp⟩ := w0
  have HP := Lib.hid hp
  clear hp
  obtain ⟨W0, hW0⟩ : ∃ W0, w.alloc (.cells #[.slice A1 n1 c1, .slice A2 n2 c2] 25) = W0 := ⟨_, rfl⟩
  have HB0 : Hid (Below w.heap.size w W0) := by show Below _ _ _; rw [← hW0]; exact (Below.refl _ _).alloc (Nat.le_refl _) _
  have pq0 : W0.cell? ⟨w.heap.size, 0, none⟩ = some (.slice A1 n1 c1) := by rw [← hW0, World.cell?_alloc_mark]; rfl
  have pq1 : W0.cell? ⟨w.heap.size, 1, none⟩ = some (.slice A2 n2 c2) := by rw [← hW0, World.cell?_alloc_mark]; rfl
  go_enter Try.func3, Try.ntmps3
  go_wp2_with fail
  clear hW0 pq0 pq1
  refine (made_at HP.out HB0.out).mono ?_
  rintro e W1 ⟨g, n, cap, P, rfl, hP, hn, hT, hbb⟩
  have hends := ends_of hT.tree
  have hsm := hends.small (by have := hT.len; omega) (fun x hx => by have := hT.kids x hx; omega)
  have hge := hends.ge
  have hgl := hP.gl hn
  have hnl : n ≤ 65537 := by rw [← hn, ← lst_len]; exact hT.len
  have hn0 : 1 ≤ n := by rw [← hn, ← lst_len]; exact hT.pos
  obtain ⟨L, hLL⟩ : ∃ z, (lst P).map gn = z := ⟨_, rfl⟩
  obtain ⟨E, hEE⟩ : ∃ z, tEnd (lst P) = z := ⟨_, rfl⟩
  rw [hLL] at hsm hge hgl
  rw [hEE] at hge
  have HB1 := Lib.hid (below_step HB0.out hbb)
  have HF := Lib.hid (And.intro hgl (And.intro hsm hge))
  clear hbb hT hP hends hsm hge hgl hLL hEE hn HB0
  go_wp2_with fail
  go_loopw [12] (fun u V => ∃ i : Nat, i ≤ n ∧ u = .int .i64 (i : Int) ∧ Hid (Below w.heap.size w V ∧ Below W1.heap.size W1 V)) (fun u _ => n - (intOf u).toNat)
  case atStart => exact ⟨0, Nat.zero_le _, rfl, HB1.out, Below.refl _ _⟩
  case round =>
    obtain ⟨i, hi, rfl, HV⟩ := hrel
    obtain ⟨V, hV⟩ : ∃ z, z = wr := ⟨_, rfl⟩
    subst hV
    have HG := Lib.hid (HF.out.1.below HV.out.2)
    by_cases hlt : i < n
    · have dt : (i : Int) < (n : Int) := by omega
      go_wp2_with fail
      refine (parent_at HG.out HF.out.2.1 HF.out.2.2 (by omega) (i : Int)).mono ?_
      rintro e V1 ⟨rfl, ⟨h1, rfl⟩ | ⟨h1, h2, q, j, x, rfl, h3, hx, hk⟩⟩
      · obtain rfl : i = 0 := by rw [HF.out.1.len] at h1; omega
        go_wp2_with fail
        go_roundw
        case rel => exact ⟨1, by omega, by go_num, HV.out⟩
        case measure => simp [intOf]; omega
      · have hql : q < n := by have := (List.getElem?_eq_some_iff.1 hx).1; rw [HF.out.1.len] at this; exact this
        obtain ⟨_, _, gk2, gk3, _⟩ := HF.out.2.2.kid hx hk
        rw [Int.toNat_natCast] at gk2 gk3
        obtain ⟨sb1, sb2, sb3, sb4⟩ := HF.out.2.2.sub (a := i) gk2
        obtain ⟨g', o', eA, K, c, k1, k2, k3, hkr, hc⟩ := HG.out.at_ q x hx
        obtain ⟨s1, s2⟩ := HF.out.2.1 x (List.mem_of_getElem? hx)
        injection eA with eA
        injection eA with e1 e2
        subst e1 e2
        have hjl := (List.getElem?_eq_some_iff.1 hk).1
        obtain ⟨kl, hkl⟩ : ∃ z, x.kids.length = z := ⟨_, rfl⟩
        obtain ⟨kg, ko, rfl, hkc⟩ := hkr.addr (by rw [ki_len]; omega)
        have y9 := hc 9 _ rfl
        have yj := hkc j _ (ki_at hk)
        rw [hkl, Nat.zero_add] at y9
        rw [hkl] at k1 s1 hjl
        have dqi2 : decide (i ≤ q) = false := decide_eq_false (by omega)
        have dqi3 : ¬ i ≤ q := by omega
        have djk2 : decide (kl ≤ j) = false := decide_eq_false (by omega)
        have djk3 : ¬ kl ≤ j := by omega
        have di0 : ((i : Int) == 0) = false := by rw [beq_eq_false_iff_ne]; omega
        have dq0 : decide ((q : Int) < 0) = false := decide_eq_false (by omega)
        have dqi : decide ((i : Int) ≤ (q : Int)) = false := decide_eq_false (by omega)
        have dj0 : decide ((j : Int) < 0) = false := decide_eq_false (by omega)
        have djk : decide ((kl : Int) ≤ (j : Int)) = false := decide_eq_false (by omega)
        have djk' : (j : Int) < (kl : Int) := by omega
        have dql : (q : Int) < (n : Int) := by omega
        have CS : Hid (Calls Try.prog 15 #[.slice (some ⟨g, 0, none⟩) n cap, .int .i64 (i : Int)] V (NewG V (subF L (i : Int)))) := sub_at HG.out HF.out.2.1 (by omega)
        have HSB := Lib.hid (And.intro sb2 (And.intro sb3 sb4))
        have HX := Lib.hid (And.intro hx (And.intro hk (And.intro hkl (And.intro gk3 hkc))))
        clear hx hk hkl hc hkr hkc gk2 gk3 s2 sb1 sb2 sb3 sb4 h1
        by_cases hnx : j + 1 < kl
        · obtain ⟨k', hk'⟩ : ∃ z, x.kids[j + 1]? = some z := ⟨x.kids[j + 1]'(by rw [HX.out.2.2.1]; exact hnx), List.getElem?_eq_getElem _⟩
          have hk2 := HX.out.2.2.2.1 k' hk'
          have yk := HX.out.2.2.2.2 (j + 1) _ (ki_at hk')
          rw [hk2] at yk
          obtain ⟨Ei, hEi⟩ : ∃ z, E i = z := ⟨_, rfl⟩
          rw [hEi] at yk HSB
          clear hk' hk2
          have djn : (j : Int) + 1 < (kl : Int) := by omega
          go_wp2_with fail
          refine CS.out.mono ?_
          clear CS
          rintro e V2 ⟨A3, m, cap3, Q, rfl, p1, p2, p3, p4, p5, p6⟩
          have hm : m = Ei - i := by rw [← HSB.out.1, ← p5, ← p4]; simp [glst]
          have hme : (i : Int) + (m : Int) = (Ei : Int) := by have := HSB.out.2.2; omega
          have hEn : Ei ≤ 65537 := by have := HSB.out.2.1; rw [HF.out.1.len] at this; omega
          have y9' := cell_keep p6 y9
          have yk' := cell_keep p6 yk
          have HV2 : Hid (Below w.heap.size w V2 ∧ Below W1.heap.size W1 V2) := ⟨below_step HV.out.1 p6, below_step HV.out.2 p6⟩
          clear p3 p4 p5 p6 y9 yj yk HSB hm
          go_wp2_with fail
          go_roundw
          case rel => exact ⟨i + 1, by omega, by go_num, HV2.out⟩
          case measure => simp [intOf]; omega
        · have djn : ¬ (j : Int) + 1 < (kl : Int) := by omega
          go_wp2_with fail
          refine CS.out.mono ?_
          clear CS
          rintro e V2 ⟨A3, m, cap3, Q, rfl, p1, p2, p3, p4, p5, p6⟩
          have y9' := cell_keep p6 y9
          have HV2 : Hid (Below w.heap.size w V2 ∧ Below W1.heap.size W1 V2) := ⟨below_step HV.out.1 p6, below_step HV.out.2 p6⟩
          clear p3 p4 p5 p6 y9 yj HSB
          go_wp2_with fail
          go_roundw
          case rel => exact ⟨i + 1, by omega, by go_num, HV2.out⟩
          case measure => simp [intOf]; omega
    · obtain rfl : i = n := by omega
      obtain ⟨sb1, sb2, sb3, sb4⟩ := HF.out.2.2.sub (a := 0) (by rw [HF.out.1.len]; omega)
      have hE0 : E 0 = i := by have := HF.out.2.2.ends.root; rw [List.length_map, HF.out.1.len] at this; exact this
      have CS : Hid (Calls Try.prog 15 #[.slice (some ⟨g, 0, none⟩) i cap, .int .i64 (0 : Int)] V (NewG V (subF L ((0 : Nat) : Int)))) := sub_at HG.out HF.out.2.1 (by omega)
      have HSB := Lib.hid (And.intro sb2 hE0)
      clear sb1 sb2 sb3 sb4 hE0
      go_wp2_with fail
      refine CS.out.mono ?_
      clear CS
      rintro e V2 ⟨A3, m, cap3, Q, rfl, p1, p2, p3, p4, p5, p6⟩
      obtain rfl : m = i := by
        have h1 := HSB.out.1
        rw [HSB.out.2, ← p5] at h1
        rw [← p4]
        simpa [glst] using h1
      have HV2 : Hid (Below w.heap.size w V2) := below_step HV.out.1 p6
      clear p3 p4 p5 p6 HSB
      go_wp2_with fail
      refine (twakes_at V2).mono ?_
      rintro e V3 ⟨rfl, h3⟩
      have HV3 := Lib.hid (below_step HV2.out h3)
      clear h3
      go_wp2_with fail
      go_ret
      exact ⟨rfl, HV3.out⟩


set_option maxRecDepth 100000 in
theorem lifted (os : Os) (started : os.Started) (H : Type) (enc : TypeId × Value → H) :
    ReturnsInHanded {} Try.checked os 3 .any (Rows.treeParentsSpec.pre6 enc Try.prog Try.f3 Rows.treeParentsRow.domain false) (Rows.treeParentsSpec.post enc Try.prog Try.f3 false true false false) := by
  refine returnsInHanded_of_change (C := Try.checked) own started (by kernel_rfl) Try.func3
    (ChangeSpec.witness6 (enc := enc) (C := Try.checked) false ⟨#[], #[.agg #[.slice none 0 0, .slice none 0 0]], []⟩ 8 (by kernel_rfl) (by kernel_rfl) (by kernel_rfl) (by kernel_rfl)) ?_
  intro W base args ds gs before hval0 hW hcnd _
  have hval : ∀ (j : Nat) t v, Try.f3.params[j]? = some t → args[j]? = some v → Value.okWide Try.prog W .any base t v := hval0
  have hW' := hW
  obtain ⟨p, q, hA0, hV, rfl, hfz, hnd⟩ := hW
  have hA : DataW.TrodAll enc Try.prog W 0 (fun _ => true) true Try.f3.params.toList args.toList ds p := hA0
  rw [Try.params3] at hA hval
  obtain ⟨v0, vs0, d0, ds0, p0, q0, hargs, rfl, rfl, h0, r0⟩ := trodAll_cons hA
  obtain ⟨rfl, rfl, rfl⟩ := trodAll_nil r0
  obtain rfl : args = #[v0] := by cases args; simp_all
  obtain ⟨rfl, rfl⟩ := trodVars_none hV
  have k0 := h0
  have lt0 : ∀ x ∈ p0, x.block < W.heap.size := by obtain ⟨m, hm⟩ := k0; exact DataW.trod_lt m _ _ _ hm
  have w0 := open_plan (hval 0 25 v0 rfl rfl) h0
  clear hA0 hval0
  refine (walk v0 W w0).mono fun e W' ⟨he, bel⟩ => ?_
  subst he
  exact ⟨_, rfl, _, _, _, [], _, [], hW', trodAll_mk1 (shut_bool Try.underlying4 _), (trodAll_cons_mk (Below.trod laidOut (by kernel_rfl) (of_decide_eq_true (by kernel_rfl)) k0 bel lt0) trodAll_mk0), rfl, bel.frame _, fun h => by cases h⟩

theorem over : Rows.treeParentsRow.holds Try.pinned (OpenSpec.ofChange Rows.treeParentsSpec) :=
  OpenClaim.holds_of_wide 3 Try.f3 rfl rfl rfl rfl rfl rfl rfl ⟨rfl, rfl, rfl, rfl, rfl⟩ rfl rfl rfl rfl rfl (by kernel_rfl) Try.func3 (by kernel_rfl)
    (of_decide_eq_true (by kernel_rfl)) (by unfold Func.isWrapper; first | (rw [if_pos (by decide +kernel)]; kernel_rfl) | (rw [if_neg (by decide +kernel)]; exact ⟨rfl, rfl⟩))
    (fun os started H enc _ => lifted os started H enc)

theorem proved : Rows.TreeParentsSaid := over
#print axioms proved
end Go.Proofs.Ytcnnbbgfmilblaa.treeParents
