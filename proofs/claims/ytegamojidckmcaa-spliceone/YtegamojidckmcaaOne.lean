/-
  Proved: the law 'scholium/scholiumlaw03.SpliceOne' returns true for every input, and every argument reads as it did before. No conditions.
-/
import Derived.Test.YtegamojidckmcaaRows
import Derived.Test.YtegamojidckmcaaSpFacts
import Derived.WalkKit
import Derived.ProofKit
import Derived.OpenShut
import Derived.ShutString
import Derived.ChangeOld
import Derived.Below
namespace Go.Proofs.Ytegamojidckmcaa.spliceOne
open Go.ChangeShapes Go.WideShapes Go.ChangeAt Go.RowKit
open Go.ChangeMaps (open_string shut_string)
set_option linter.unusedVariables false

theorem own : ownKnob Try.prog.godebug = none := by kernel_rfl
theorem laidOut : laidOutB Try.prog = true := by kernel_rfl

/-- A slice of integers that came in. -/
def IsRow (k : IntKind) (w : World) (a : Option Addr) (len cap : Nat) (zs : List Int) : Prop :=
  (a = none ∧ len = 0 ∧ cap = 0 ∧ zs = []) ∨
  ∃ x, a = some x ∧ len ≤ cap ∧ cap ≤ maxLen ∧ zs.length = cap ∧ (∀ i, i < zs.length → w.cell? (x.add i) = some (.int k (zs.getD i 0))) ∧ ∀ n ∈ zs, (Lit.int k n).wf = true

set_option maxHeartbeats 8000000 in
set_option maxRecDepth 100000 in
theorem walk (a0 : Option Addr) (len0 cap0 : Nat) (z0 : List Int) (a1 : Option Addr) (len1 cap1 : Nat) (z1 : List Sp) (w : World) (w0 : IsRow .u8 w a0 len0 cap0 z0) (w1 : IsSps w a1 len1 cap1 z1) :
    Calls Try.prog 7 #[.slice a0 len0 cap0, .slice a1 len1 cap1] w fun e w' => e = .returned (.bool true) ∧ Below w.heap.size w w' := by
  obtain ⟨hrd, hby, hlen, hnc, hm, hA⟩ := isRow_rd w0
  obtain ⟨hsl, hsr, hs64, hsc, hsm, hsA⟩ := w1
  clear w0
  generalize z0.take len0 = ys at *
  have HS := Lib.hid (And.intro hsl (And.intro hsr (And.intro hs64 hsA)))
  have HRD := Lib.hid (And.intro hrd (And.intro hlen hA))
  clear hrd hby hlen hA hsl hsr hs64 hsA
  go_enter Try.func7, Try.ntmps7
  go_wp2_with fail
  refine (cut_any a0 len0 cap0 100 ys _ HRD.out.2.1 hnc hm (by omega) HRD.out.1 HRD.out.2.2).mono ?_
  rintro e W1 ⟨A, n, cap, rfl, h1, h2, h3, h4, h5, h6⟩
  have hn : n ≤ 100 := by rw [← h1, List.length_take]; omega
  generalize ys.take 100 = zs at *
  clear HRD hnc hm
  have HZ := Lib.hid (And.intro h1 (And.intro h4 (And.intro h5 h6)))
  clear h1 h4 h5 h6
  go_wp2_with fail
  refine (splices_valid a1 len1 cap1 z1 n W1 HS.out.1 hsc hsm (HS.out.2.1.below HZ.out.2.2.2) HS.out.2.2.1 (by omega)).mono ?_
  rintro e W2 ⟨r, A2, m, cap2, rfl, g1, g2, g3, g4, g5, g6, g7, g8, g9⟩
  have g7 := g7 rfl
  subst g1
  have hb2 := below_step HZ.out.2.2.2 g9
  have hrs := RdC.own g8
  have hrb := HZ.out.2.2.1.below g9
  have HT : Hid (Texts r ∧ All64 r ∧ validF n 0 r = true) := ⟨fun x hx => by have := g5 x hx; omega, g6, g7⟩
  have hsz := small_sum hn g2 g5 g7
  have HW2 := Lib.hid (And.intro hb2 (And.intro hrs hrb))
  have HX := Lib.hid (And.intro HZ.out.1 (And.intro HZ.out.2.1 g5))
  clear g5 g6 g7 g8 g9 hb2 hrs hrb HZ HS
  go_wp2_with fail
  refine (do_good A n cap zs A2 r.length cap2 r W2 HX.out.1 h2 h3 HX.out.2.1 HW2.out.2.2 (by omega) rfl g3 g4 HT.out.2.1 HW2.out.2.1 (by omega) HT.out.1 HT.out.2.2 (by have := hsz r.length; rw [List.take_length] at this; omega)).mono ?_
  rintro e W3 ⟨A3, n3, cap3, rfl, k1, k2, k3, k4, k5, k6⟩
  have HW3 := Lib.hid (And.intro (below_step HW2.out.1 k6) (And.intro (HW2.out.2.1.below k6) (And.intro (HW2.out.2.2.below k6) (And.intro k1 (And.intro k4 k5)))))
  clear k1 k4 k5 k6 HW2
  go_wp2_with fail
  refine (copy_any A n cap zs W3 HX.out.1 (by omega) HW3.out.2.2.1).mono ?_
  rintro e W4 ⟨A4, n4, cap4, rfl, j1, j2, j3, j4, j5, j6⟩
  obtain rfl : n = n4 := by rw [← j1, HX.out.1]
  have HW4 := Lib.hid (And.intro (below_step HW3.out.1 j6) (And.intro (RdS.below HW3.out.2.1 j6) (And.intro (HW3.out.2.2.2.2.2.below j6) (And.intro j1 (And.intro j4 j5)))))
  have HL3 := Lib.hid HW3.out.2.2.2.1
  clear j1 j4 j5 j6 HW3
  go_wp2_with fail
  go_loopw [8, 9] (fun v i W => ∃ (k : Nat) (A' : Option Addr) (p c : Nat), k ≤ r.length ∧ i = .int .i64 ((k : Int) - 1) ∧ v = .slice A' p c ∧ p ≤ c ∧ c ≤ 9223372036854775807 ∧
    Hid ((doF zs 0 (r.drop k)).length = p ∧ (A' = none → c = 0) ∧ RdB W A' (doF zs 0 (r.drop k)) ∧ Below W4.heap.size W4 W)) (fun _ i _ => (intOf i + 1).toNat)
  case atStart =>
    refine ⟨r.length, A4, n, cap4, Nat.le_refl _, by go_num, rfl, j2, j3, ?_⟩
    rw [List.drop_length]
    exact ⟨by simpa [doF] using HX.out.1, HW4.out.2.2.2.2.1, by simpa [doF] using HW4.out.2.2.2.2.2, Below.refl _ _⟩
  case round =>
    obtain ⟨k, A', p, c, hk, rfl, rfl, hpc, hcm, HK⟩ := hrel
    obtain ⟨wo, hwo⟩ : ∃ x, x = wr := ⟨_, rfl⟩
    subst hwo
    have hdl := do_len zs (r.drop k) 0 (by omega) (by rw [HX.out.1]; exact valid_drop k HT.out.2.2)
    have hsk := hsz k
    have hsa := hsz r.length
    rw [List.take_length] at hsa
    rw [sum_drop, HK.out.1, HX.out.1] at hdl
    have hp : p ≤ 1000 := by omega
    clear hdl hsk hsa
    by_cases h0 : 0 < k
    · obtain ⟨j, rfl⟩ : ∃ j, k = j + 1 := ⟨k - 1, by omega⟩
      have hlt : j < r.length := by omega
      obtain ⟨b, off, rfl, hbl, hcell⟩ := (RdS.below HW4.out.2.1 HK.out.2.2.2).addr (by omega)
      obtain ⟨c0, c1, c2⟩ := hcell j hlt
      have hv2 := valid_drop (n := (n : Int)) j HT.out.2.2
      have hdc := drop_cons hlt
      have hx64 := HT.out.2.1 _ (spAt_mem hlt)
      have hxt := HT.out.1 _ (spAt_mem hlt)
      have hx20 := HX.out.2.2 _ (spAt_mem hlt)
      generalize spAt r j = x at *
      rw [hdc] at hv2
      have hone := do_one zs x (r.drop (j + 1)) (by rw [HX.out.1]; exact hv2)
      have hdl2 := do_len zs (r.drop (j + 1)) 0 (by omega) (by rw [HX.out.1]; exact valid_mono (by have := valid_cons.1 hv2; omega) (valid_cons.1 hv2).2.2.2)
      have hdl3 := do_from zs (r.drop (j + 1)) 0 x.t.toNat (by omega) (by rw [HX.out.1]; have := valid_cons.1 hv2; omega) (by rw [HX.out.1]; have := valid_cons.1 hv2; rw [show ((x.t.toNat : Nat) : Int) = x.t by omega]; exact this.2.2.2)
      rw [HX.out.1, HK.out.1] at hdl2
      have hvx : validF p 0 [x] = true := by
        have hc := valid_cons.1 hv2
        have hln := congrArg List.length hdl3
        rw [List.length_append, HK.out.1] at hln
        simp only [List.length_take, List.length_drop, HX.out.1] at hln
        rw [valid_cons]
        exact ⟨hc.1, hc.2.1, by omega, rfl⟩
      have hsx : (p : Int) + sumG [x] ≤ 65536 := by
        have hc := valid_cons.1 hvx
        simp only [sumG, grw]
        omega
      have HXX := Lib.hid (And.intro hone (And.intro hvx (And.intro hx64 (And.intro hdc hsx))))
      clear hcell hv2 hdc hx64 hone hvx hdl2 hdl3 hx20 hsx
      have e1 : ((j + 1 : Nat) : Int) - 1 = (j : Int) := by omega
      rw [e1]
      clear e1
      have hbo : Below wo.heap.size wo (wo.alloc (.cells #[.int .i64 x.f, .int .i64 x.t, .string x.s] 28)) := (Below.refl _ _).alloc (Nat.le_refl _) _
      have HBO := Lib.hid hbo
      clear hbo
      go_wp2_with fail
      refine (do_good A' p c _ (some ⟨wo.heap.size, 0, none⟩) 1 1 [x] _ HK.out.1 hpc hcm HK.out.2.1 (HK.out.2.2.1.below HBO.out) (by omega) rfl (by omega) (by omega) (by intro y hy; simp at hy; subst hy; exact HXX.out.2.2.1) RdS.one (by omega) (by intro y hy; simp at hy; subst hy; exact hxt) HXX.out.2.1 HXX.out.2.2.2.2).mono ?_
      rintro e V ⟨A5, n5, cap5, rfl, m1, m2, m3, m4, m5, m6⟩
      rw [HXX.out.1, ← HXX.out.2.2.2.1] at m1 m5
      have HV := Lib.hid (And.intro m1 (And.intro m4 (And.intro m5 (below_step HK.out.2.2.2 (below_step HBO.out m6)))))
      clear m1 m4 m5 m6
      go_wp2
      go_roundw
      case rel => exact ⟨j, A5, n5, cap5, by omega, by go_num, rfl, m2, m3, HV⟩
      case measure => simp [intOf]
    · obtain rfl : k = 0 := by omega
      have hp3 : n3 = p := by rw [← HL3.out, ← HK.out.1]; rfl
      subst hp3
      have hall := HW4.out.2.2.1.below HK.out.2.2.2
      have hnow := HK.out.2.2.1
      have HR := Lib.hid (And.intro hall hnow)
      have HBB := Lib.hid (below_step HW4.out.1 HK.out.2.2.2)
      clear hall hnow
      have dk : ((0 : Nat) : Int) - 1 < 0 := by omega
      go_wp2_with fail
      refine (sameB_any A3 A' n3 cap3 c _ wo HK.out.1 (by omega) k2 hpc HR.out.1 HR.out.2).mono ?_
      rintro e V ⟨rfl, hb⟩
      have HB5 := Lib.hid (below_step HBB.out hb)
      clear hb
      go_wp2_with fail
      refine (wakes_any V).mono ?_
      rintro e V2 ⟨rfl, hb⟩
      have HB6 := Lib.hid (below_step HB5.out hb)
      clear hb
      go_wp2
      go_ret
      exact ⟨rfl, HB6.out⟩


set_option maxRecDepth 100000 in
theorem lifted (os : Os) (started : os.Started) (H : Type) (enc : TypeId × Value → H) :
    ReturnsInHanded {} Try.checked os 7 .any (Rows.spliceOneSpec.pre6 enc Try.prog Try.f7 Rows.spliceOneRow.domain false) (Rows.spliceOneSpec.post enc Try.prog Try.f7 false true false false) := by
  refine returnsInHanded_of_change (C := Try.checked) own started (by kernel_rfl) Try.func7
    (ChangeSpec.witness6 (enc := enc) (C := Try.checked) false ⟨#[], #[.slice none 0 0, .slice none 0 0], []⟩ 8 (by kernel_rfl) (by kernel_rfl) (by kernel_rfl) (by kernel_rfl)) ?_
  intro W base args ds gs before hval0 hW hcnd _
  have hval : ∀ (j : Nat) t v, Try.f7.params[j]? = some t → args[j]? = some v → Value.okWide Try.prog W .any base t v := hval0
  have hW' := hW
  obtain ⟨p, q, hA0, hV, rfl, hfz, hnd⟩ := hW
  have hA : DataW.TrodAll enc Try.prog W 0 (fun _ => true) true Try.f7.params.toList args.toList ds p := hA0
  rw [Try.params7] at hA hval
  obtain ⟨v0, vs0, d0, ds0, p0, q0, hargs, rfl, rfl, h0, r0⟩ := trodAll_cons hA
  obtain ⟨v1, vs1, d1, ds1, p1, q1, rfl, rfl, rfl, h1, r1⟩ := trodAll_cons r0
  obtain ⟨rfl, rfl, rfl⟩ := trodAll_nil r1
  obtain rfl : args = #[v0, v1] := by cases args; simp_all
  obtain ⟨rfl, rfl⟩ := trodVars_none hV
  obtain ⟨a0, len0, cap0, rfl⟩ := okWide_slice Try.underlying23 (hval 0 23 v0 rfl rfl)
  have k0 := h0
  have lt0 : ∀ x ∈ p0, x.block < W.heap.size := by obtain ⟨m, hm⟩ := k0; exact DataW.trod_lt m _ _ _ hm
  obtain ⟨z0, w0⟩ : ∃ zs, IsRow .u8 W a0 len0 cap0 zs := by
    obtain ⟨fuel, hf⟩ := h0
    rcases open_ints Try.underlying23 Try.underlying5 (by kernel_rfl) hf with ⟨hcs, _⟩ | ⟨x, l, c, zs, hcs, _, hl, hm, hz, _, hcell, hwz⟩
    · simp [Value.cells] at hcs
      obtain ⟨rfl, rfl, rfl⟩ := hcs
      exact ⟨[], .inl ⟨rfl, rfl, rfl, rfl⟩⟩
    · simp [Value.cells] at hcs
      obtain ⟨rfl, rfl, rfl⟩ := hcs
      exact ⟨zs, .inr ⟨_, rfl, hl, hm, by simpa using hz, hcell, hwz⟩⟩
  obtain ⟨a1, len1, cap1, rfl⟩ := okWide_slice Try.underlying29 (hval 1 29 v1 rfl rfl)
  have k1 := h1
  have lt1 : ∀ x ∈ p1, x.block < W.heap.size := by obtain ⟨m, hm⟩ := k1; exact DataW.trod_lt m _ _ _ hm
  obtain ⟨z1, w1⟩ := open_splices h1
  clear hA0 hval0
  refine (walk a0 len0 cap0 z0 a1 len1 cap1 z1 W w0 w1).mono fun e W' ⟨he, bel⟩ => ?_
  subst he
  exact ⟨_, rfl, _, _, _, [], _, [], hW', trodAll_mk1 (shut_bool Try.underlying4 _), (trodAll_cons_mk (Below.trod laidOut (by kernel_rfl) (of_decide_eq_true (by kernel_rfl)) k0 bel lt0) (trodAll_cons_mk (Below.trod laidOut (by kernel_rfl) (of_decide_eq_true (by kernel_rfl)) k1 bel lt1) trodAll_mk0)), rfl, bel.frame _, fun h => by cases h⟩

theorem over : Rows.spliceOneRow.holds Try.pinned (OpenSpec.ofChange Rows.spliceOneSpec) :=
  OpenClaim.holds_of_wide 7 Try.f7 rfl rfl rfl rfl rfl rfl rfl ⟨rfl, rfl, rfl, rfl, rfl⟩ rfl rfl rfl rfl rfl (by kernel_rfl) Try.func7 (by kernel_rfl)
    (of_decide_eq_true (by kernel_rfl)) (by unfold Func.isWrapper; first | (rw [if_pos (by decide +kernel)]; kernel_rfl) | (rw [if_neg (by decide +kernel)]; exact ⟨rfl, rfl⟩))
    (fun os started H enc _ => lifted os started H enc)

theorem proved : Rows.SpliceOneSaid := over
#print axioms proved
end Go.Proofs.Ytegamojidckmcaa.spliceOne
