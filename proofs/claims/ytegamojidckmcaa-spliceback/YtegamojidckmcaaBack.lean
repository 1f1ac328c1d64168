/-
  Proved: the law 'scholium/scholiumlaw03.SpliceBack' returns true for every input, and every argument reads as it did before. No conditions.
-/
import Derived.Test.YtegamojidckmcaaRows
import Derived.Test.YtegamojidckmcaaSpFacts
import Derived.WalkKit
import Derived.ProofKit
import Derived.OpenShut
import Derived.ShutString
import Derived.ChangeOld
import Derived.Below
namespace Go.Proofs.Ytegamojidckmcaa.spliceBack
open Go.ChangeShapes Go.WideShapes Go.ChangeAt Go.RowKit
open Go.ChangeMaps (open_string shut_string)
set_option linter.unusedVariables false

theorem own : ownKnob Try.prog.godebug = none := by kernel_rfl
theorem laidOut : laidOutB Try.prog = true := by kernel_rfl

/-- A slice of integers that came in. -/
def IsRow (k : IntKind) (w : World) (a : Option Addr) (len cap : Nat) (zs : List Int) : Prop :=
  (a = none ∧ len = 0 ∧ cap = 0 ∧ zs = []) ∨
  ∃ x, a = some x ∧ len ≤ cap ∧ cap ≤ maxLen ∧ zs.length = cap ∧ (∀ i, i < zs.length → w.cell? (x.add i) = some (.int k (zs.getD i 0))) ∧ ∀ n ∈ zs, (Lit.int k n).wf = true

theorem str_size (l : List Int) : (strOfNums l).size = l.length := by
  have := strOfNums_data l
  have h2 : (strOfNums l).size = (strOfNums l).data.toList.length := rfl
  rw [h2, this]; simp
theorem back_text (zs : List Int) : ∀ (l : List Sp) (c : Int), ∀ x ∈ backF zs c l, x.s.size ≤ zs.length
  | [], c, x, hx => by simp [backF] at hx
  | y :: r, c, x, hx => by
    simp only [backF] at hx
    rcases List.mem_cons.1 hx with rfl | hx
    · show (strOfNums _).size ≤ _
      rw [str_size, List.length_take, List.length_drop]; omega
    · exact back_text zs r _ x hx

set_option maxHeartbeats 8000000 in
set_option maxRecDepth 100000 in
theorem walk (a0 : Option Addr) (len0 cap0 : Nat) (z0 : List Int) (a1 : Option Addr) (len1 cap1 : Nat) (z1 : List Sp) (w : World) (w0 : IsRow .u8 w a0 len0 cap0 z0) (w1 : IsSps w a1 len1 cap1 z1) :
    Calls Try.prog 8 #[.slice a0 len0 cap0, .slice a1 len1 cap1] w fun e w' => e = .returned (.bool true) ∧ Below w.heap.size w w' := by
  obtain ⟨hrd, hby, hlen, hnc, hm, hA⟩ := isRow_rd w0
  obtain ⟨hsl, hsr, hs64, hsc, hsm, hsA⟩ := w1
  clear w0
  generalize z0.take len0 = ys at *
  have HS := Lib.hid (And.intro hsl (And.intro hsr (And.intro hs64 hsA)))
  have HRD := Lib.hid (And.intro hrd (And.intro hlen hA))
  clear hrd hlen hA hsl hsr hs64 hsA
  go_enter Try.func8, Try.ntmps8
  go_wp2_with fail
  refine (cut_any a0 len0 cap0 80 ys _ HRD.out.2.1 hnc hm (by omega) HRD.out.1 HRD.out.2.2).mono ?_
  rintro e W1 ⟨A, n, cap, rfl, h1, h2, h3, h4, h5, h6⟩
  have hn : n ≤ 80 := by rw [← h1, List.length_take]; omega
  have hby2 := hby.take 80
  generalize ys.take 80 = zs at *
  clear HRD hnc hm
  have HZ := Lib.hid (And.intro h1 (And.intro h4 (And.intro h5 h6)))
  clear h1 h4 h5 h6
  go_wp2_with fail
  refine (splices_valid a1 len1 cap1 z1 n W1 HS.out.1 hsc hsm (HS.out.2.1.below HZ.out.2.2.2) HS.out.2.2.1 (by omega)).mono ?_
  rintro e W2 ⟨r, A2, m, cap2, rfl, g1, g2, g3, g4, g5, g6, g7, g8, g9⟩
  have g7 := g7 rfl
  subst g1
  have hb2 := below_step HZ.out.2.2.2 g9
  have hrs := RdC.own g8
  have hrb := HZ.out.2.2.1.below g9
  have HT : Hid (Texts r ∧ All64 r ∧ validF n 0 r = true) := ⟨fun x hx => by have := g5 x hx; omega, g6, g7⟩
  have hsz := small_sum (by omega) g2 g5 g7
  have HW2 := Lib.hid (And.intro hb2 (And.intro hrs hrb))
  have HX := Lib.hid (And.intro HZ.out.1 (And.intro HZ.out.2.1 g5))
  clear g5 g6 g7 g8 g9 hb2 hrs hrb HZ HS
  go_wp2_with fail
  refine (do_good A n cap zs A2 r.length cap2 r W2 HX.out.1 h2 h3 HX.out.2.1 HW2.out.2.2 (by omega) rfl g3 g4 HT.out.2.1 HW2.out.2.1 (by omega) HT.out.1 HT.out.2.2 (by have := hsz r.length; rw [List.take_length] at this; omega)).mono ?_
  rintro e W3 ⟨A3, n3, cap3, rfl, k1, k2, k3, k4, k5, k6⟩
  have HW3 := Lib.hid (And.intro (below_step HW2.out.1 k6) (And.intro (HW2.out.2.1.below k6) (And.intro (HW2.out.2.2.below k6) (And.intro k1 (And.intro k4 k5)))))
  clear k1 k4 k5 k6 HW2
  have HBD := Lib.hid hsz
  have hsa := hsz r.length
  rw [List.take_length] at hsa
  have hl3 := do_len zs r 0 (by omega) (by rw [HX.out.1]; exact HT.out.2.2)
  rw [HX.out.1, HW3.out.2.2.2.1] at hl3
  have hn3 : (n3 : Int) = n + sumG r := by omega
  have HN3 := Lib.hid hn3
  have hn3b : n3 ≤ 1000 := by omega
  clear hsz hsa hl3 hn3
  have HBY := Lib.hid hby2
  clear hby hby2
  go_wp2_with fail
  go_loopw [8, 9, 30] (fun v s i W => ∃ (k : Nat) (z : Int) (A' : Option Addr) (p c : Nat), k ≤ r.length ∧ k = p ∧ i = .int .i64 (k : Int) ∧ s = .int .i64 z ∧ v = .slice A' p c ∧ p ≤ c ∧ c ≤ 9223372036854775807 ∧
    Hid (z = sumG (r.take k) ∧ W.ownsRow W3.heap.size 28 3 (.slice A' p c) p (spsC (backF zs 0 (r.take k))) ∧ Below W3.heap.size W3 W)) (fun _ _ i _ => r.length - (intOf i).toNat)
  case atStart => exact ⟨0, 0, none, 0, 0, by omega, rfl, rfl, rfl, rfl, by omega, by omega, by simp [sumG], own_nil _ _ _ _, Below.refl _ _⟩
  case round =>
    obtain ⟨k, z, A', p, c, hk, rfl, rfl, rfl, rfl, hpc, hcm, HK⟩ := hrel
    obtain ⟨wo, hwo⟩ : ∃ x, x = wr := ⟨_, rfl⟩
    subst hwo
    have hbk := HBD.out k
    have hbk1 := HBD.out (k + 1)
    by_cases hlt : k < r.length
    · obtain ⟨b, off, rfl, hbl, hcell⟩ := (RdS.below HW3.out.2.1 HK.out.2.2).addr (by omega)
      have hcw : ∀ V, Below W3.heap.size W3 V → V.cell? ⟨b, off + k * 3, none⟩ = some (.int .i64 (spAt r k).f) ∧ V.cell? ⟨b, off + k * 3 + 1, none⟩ = some (.int .i64 (spAt r k).t) ∧ V.cell? ⟨b, off + k * 3 + 2, none⟩ = some (.string (spAt r k).s) := by
        intro V hV
        obtain ⟨b', off', e, _, hc⟩ := (RdS.below HW3.out.2.1 hV).addr (by omega)
        injection e with e; injection e with e1 e2; subst e1 e2
        exact hc k hlt
      have hvx := valid_mem HT.out.2.2 _ (spAt_mem hlt)
      have hx20 := HX.out.2.2 _ (spAt_mem hlt)
      have hst := sumG_take hlt
      have hsn := back_snoc zs (r.take k) 0 (spAt r k)
      have hta : r.take (k + 1) = r.take k ++ [spAt r k] := by rw [List.take_add_one, spAt_some hlt]; rfl
      rw [← hta] at hsn
      clear hta
      generalize spAt r k = x at *
      obtain ⟨hv1, hv2, hv3⟩ := hvx
      unfold grw at hst
      have hz := HK.out.1
      have hz1 : z + ((x.s.size : Int) - (x.t - x.f)) = sumG (r.take (k + 1)) := by omega
      have hzb : -1000 ≤ z ∧ z ≤ 1000 := by omega
      rw [Int.zero_add, ← hz] at hsn
      obtain ⟨f, hf⟩ : ∃ f : Nat, x.f = (f : Int) := ⟨x.f.toNat, by omega⟩
      obtain ⟨t, ht⟩ : ∃ t : Nat, x.t = (t : Int) := ⟨x.t.toNat, by omega⟩
      obtain ⟨s, hs⟩ : ∃ s, x.s = s := ⟨_, rfl⟩
      rw [hf] at hcw hv1 hv2 hsn hz1
      rw [ht] at hcw hv2 hv3 hsn hz1
      rw [hs] at hcw hx20 hsn hz1
      obtain ⟨c0, c1, c2⟩ := hcw _ HK.out.2.2
      simp only [Int.toNat_natCast] at hsn
      clear hst hcell hbk hbk1 hz hf ht hs
      obtain ⟨hzb1, hzb2⟩ := hzb
      obtain ⟨A6, hsl, hA6, hrd6⟩ := slice_lh A n cap f t zs HX.out.1 h2 HX.out.2.1 (by omega) (by omega)
      have hy : ((zs.drop f).take (t - f)).length = t - f := by rw [List.length_take, List.length_drop, HX.out.1]; omega
      have hcv := fun V (hV : Below W3.heap.size W3 V) => run_string_rd V A6 (t - f) (cap - f) _ hy (hrd6 _ (HW3.out.2.2.1.below hV))
      generalize strOfNums ((zs.drop f).take (t - f)) = str at *
      obtain ⟨hown, hbel⟩ := HK.out.2
      have hbl2 : (backF zs 0 (r.take k)).length = k := by rw [back_len, List.length_take]; omega
      have hown1 := own_below hown (Below.refl wo.heap.size wo).drew
      have hbel1 := below_step hbel (Below.refl wo.heap.size wo).drew
      have happ := fun q => append_sp W3 wo.drew (.slice A' k c) (backF zs 0 (r.take k)) ⟨(f : Int) + z, q, str⟩ (by rw [hbl2]; exact hown1) hbel1 (by omega)
      rw [hbl2] at happ
      obtain ⟨A7, cap7, W7, hrun, hown7, hc1, hc2, hbel7, hblk7⟩ := happ (IntKind.i64.wrap ((f : Int) + z + s.size))
      have ewr : IntKind.i64.wrap ((f : Int) + z + s.size) = (f : Int) + z + s.size := IntWalk.i64_in _ (by omega)
      have HX7 := Lib.hid (And.intro hown7 (And.intro hbel7 (And.intro hz1 (And.intro hsn ewr))))
      have HRUN := Lib.hid hrun
      have hS : ∀ V, Below W3.heap.size W3 V → V.cell? ⟨b, off + k * 3, none⟩ = some (.int .i64 (f : Int)) ∧ V.cell? ⟨b, off + k * 3 + 1, none⟩ = some (.int .i64 (t : Int)) ∧ V.cell? ⟨b, off + k * 3 + 2, none⟩ = some (.string s) ∧ (convert 23 9 (.slice A6 (t - f) (cap - f))).run Try.prog V = .ok (.string str) V :=
        fun V hV => ⟨(hcw V hV).1, (hcw V hV).2.1, (hcw V hV).2.2, hcv V hV⟩
      have HS := Lib.hid (And.intro (hS _ hbel) (And.intro (hS _ hbel1) (And.intro (fun o => hS _ (below_step hbel1 ((Below.refl wo.drew.heap.size wo.drew).alloc (Nat.le_refl _) o))) (hS _ hbel7))))
      obtain ⟨q0, q1, q2, _⟩ := hS _ hbel7
      clear hown7 hbel7 hz1 hsn ewr hrun hblk7 happ hown1 hbel1 hown hbel hbl2 hy hrd6 hA6 hcw HK hcv hS
      have dk : (k : Int) < (r.length : Int) := by omega
      go_wp2_with fail
      go_region_held3 (fun w' => w'.cell? ⟨b, off + k * 3, none⟩ = some (.int .i64 (f : Int)) ∧ w'.cell? ⟨b, off + k * 3 + 1, none⟩ = some (.int .i64 (t : Int)) ∧ w'.cell? ⟨b, off + k * 3 + 2, none⟩ = some (.string s) ∧ (convert 23 9 (.slice A6 (t - f) (cap - f))).run Try.prog w' = .ok (.string str) w')
        (first | exact HS.out.1 | exact HS.out.2.1 | exact HS.out.2.2.1 _ | exact HS.out.2.2.2)
        ((refine step_append_known (by rfl) _ _ 29 29 (by rfl) _ _ _ _ (by rfl) (by rfl) HRUN.out ?_))
      go_wp2_with fail
      go_quiet (fail)
      go_wp2
      go_roundw
      case rel =>
        refine ⟨k + 1, _, A7, k + 1, cap7, by omega, rfl, by go_num, rfl, rfl, hc1, hc2, ?_, ?_, below_draws HX7.out.2.1 _⟩
        · rw [← HX7.out.2.2.1]
        · have := HX7.out.1
          rw [HX7.out.2.2.2.2, ← HX7.out.2.2.2.1] at this
          exact own_below this (below_draws (Below.refl _ _) _)
      case measure => simp [intOf]; omega
    · obtain rfl : k = r.length := by omega
      obtain ⟨hz, hown, hbel⟩ := HK.out
      rw [List.take_length] at hown
      have hbb := back_valid zs r 0 0 n3 (by omega) (by rw [HX.out.1]; exact HT.out.2.2) (by rw [HX.out.1]; have := HN3.out; omega)
      have hbd := back_do zs HBY.out (doF zs 0 r) r 0 0 0 (by omega) (by rw [HX.out.1]; exact HT.out.2.2) (by omega) rfl
      simp only [List.drop_zero] at hbd
      have hbt := back_text zs r 0
      rw [HX.out.1] at hbt
      have hbv : validF n3 0 (backF zs 0 r) = true := by simpa using hbb
      have hbl := do_len (doF zs 0 r) (backF zs 0 r) 0 (by omega) (by rw [HW3.out.2.2.2.1]; exact hbv)
      rw [hbd, HX.out.1, HW3.out.2.2.2.1] at hbl
      have h64 : All64 (backF zs 0 r) := by
        intro x hx
        have h1 := valid_mem hbv x hx
        have h2 := hbt x hx
        exact ⟨by omega, by omega, by omega, by omega, by omega⟩
      have hlen : (backF zs 0 r).length = r.length := back_len zs r 0
      have HQ := Lib.hid (And.intro hbv (And.intro hbd (And.intro h64 (And.intro (RdC.own hown) (And.intro hlen (And.intro hbel (fun x hx => Nat.le_trans (hbt x hx) (by omega) : Texts (backF zs 0 r))))))))
      have hsum : (n3 : Int) + sumG (backF zs 0 r) ≤ 65536 := by omega
      have HSUM := Lib.hid hsum
      clear hz hown hbel hbb hbd hbt hbv hbl h64 hlen hsum HK hbk hbk1
      generalize backF zs 0 r = bk at *
      go_wp2_with fail
      refine (do_good A3 n3 cap3 _ A' r.length c bk wo HW3.out.2.2.2.1 k2 k3 HW3.out.2.2.2.2.1 (HW3.out.2.2.2.2.2.below HQ.out.2.2.2.2.2.1) (by omega) HQ.out.2.2.2.2.1 hpc hcm HQ.out.2.2.1 HQ.out.2.2.2.1 (by omega) HQ.out.2.2.2.2.2.2 HQ.out.1 HSUM.out).mono ?_
      rintro e V ⟨A5, n5, cap5, rfl, m1, m2, m3, m4, m5, m6⟩
      rw [HQ.out.2.1] at m1 m5
      obtain rfl : n = n5 := by rw [← m1, HX.out.1]
      have hbV := below_step HQ.out.2.2.2.2.2.1 m6
      have HV := Lib.hid (And.intro m5 (And.intro hbV (And.intro (RdS.below HQ.out.2.2.2.1 m6) m1)))
      clear m1 m4 m5 m6 hbV
      go_wp2_with fail
      refine (sameB_any A5 A n cap5 cap zs V HX.out.1 (by omega) m2 h2 HV.out.1 (HW3.out.2.2.1.below HV.out.2.1)).mono ?_
      rintro e V2 ⟨rfl, hb⟩
      have HB5 := Lib.hid (And.intro (below_step (below_step HW3.out.1 HV.out.2.1) hb) (RdS.below HV.out.2.2.1 hb))
      clear hb
      go_wp2_with fail
      refine (valid_any A' r.length c bk n3 V2 HQ.out.2.2.2.2.1 hpc hcm HQ.out.2.2.1 HB5.out.2 (by omega)).mono ?_
      rw [HQ.out.1]
      rintro e V3 ⟨rfl, hb⟩
      have HB6 := Lib.hid (below_step HB5.out.1 hb)
      clear hb
      go_wp2_with fail
      refine (wakes_any V3).mono ?_
      rintro e V4 ⟨rfl, hb⟩
      have HB7 := Lib.hid (below_step HB6.out hb)
      clear hb
      go_wp2
      go_ret
      exact ⟨rfl, HB7.out⟩


set_option maxRecDepth 100000 in
theorem lifted (os : Os) (started : os.Started) (H : Type) (enc : TypeId × Value → H) :
    ReturnsInHanded {} Try.checked os 8 .any (Rows.spliceBackSpec.pre6 enc Try.prog Try.f8 Rows.spliceBackRow.domain false) (Rows.spliceBackSpec.post enc Try.prog Try.f8 false true false false) := by
  refine returnsInHanded_of_change (C := Try.checked) own started (by kernel_rfl) Try.func8
    (ChangeSpec.witness6 (enc := enc) (C := Try.checked) false ⟨#[], #[.slice none 0 0, .slice none 0 0], []⟩ 8 (by kernel_rfl) (by kernel_rfl) (by kernel_rfl) (by kernel_rfl)) ?_
  intro W base args ds gs before hval0 hW hcnd _
  have hval : ∀ (j : Nat) t v, Try.f8.params[j]? = some t → args[j]? = some v → Value.okWide Try.prog W .any base t v := hval0
  have hW' := hW
  obtain ⟨p, q, hA0, hV, rfl, hfz, hnd⟩ := hW
  have hA : DataW.TrodAll enc Try.prog W 0 (fun _ => true) true Try.f8.params.toList args.toList ds p := hA0
  rw [Try.params8] at hA hval
  obtain ⟨v0, vs0, d0, ds0, p0, q0, hargs, rfl, rfl, h0, r0⟩ := trodAll_cons hA
  obtain ⟨v1, vs1, d1, ds1, p1, q1, rfl, rfl, rfl, h1, r1⟩ := trodAll_cons r0
  obtain ⟨rfl, rfl, rfl⟩ := trodAll_nil r1
  obtain rfl : args = #[v0, v1] := by cases args; simp_all
  obtain ⟨rfl, rfl⟩ := trodVars_none hV
  obtain ⟨a0, len0, cap0, rfl⟩ := okWide_slice Try.underlying23 (hval 0 23 v0 rfl rfl)
  have k0 := h0
  have lt0 : ∀ x ∈ p0, x.block < W.heap.size := by obtain ⟨m, hm⟩ := k0; exact DataW.trod_lt m _ _ _ hm
  obtain ⟨z0, w0⟩ : ∃ zs, IsRow .u8 W a0 len0 cap0 zs := by
    obtain ⟨fuel, hf⟩ := h0
    rcases open_ints Try.underlying23 Try.underlying5 (by kernel_rfl) hf with ⟨hcs, _⟩ | ⟨x, l, c, zs, hcs, _, hl, hm, hz, _, hcell, hwz⟩
    · simp [Value.cells] at hcs
      obtain ⟨rfl, rfl, rfl⟩ := hcs
      exact ⟨[], .inl ⟨rfl, rfl, rfl, rfl⟩⟩
    · simp [Value.cells] at hcs
      obtain ⟨rfl, rfl, rfl⟩ := hcs
      exact ⟨zs, .inr ⟨_, rfl, hl, hm, by simpa using hz, hcell, hwz⟩⟩
  obtain ⟨a1, len1, cap1, rfl⟩ := okWide_slice Try.underlying29 (hval 1 29 v1 rfl rfl)
  have k1 := h1
  have lt1 : ∀ x ∈ p1, x.block < W.heap.size := by obtain ⟨m, hm⟩ := k1; exact DataW.trod_lt m _ _ _ hm
  obtain ⟨z1, w1⟩ := open_splices h1
  clear hA0 hval0
  refine (walk a0 len0 cap0 z0 a1 len1 cap1 z1 W w0 w1).mono fun e W' ⟨he, bel⟩ => ?_
  subst he
  exact ⟨_, rfl, _, _, _, [], _, [], hW', trodAll_mk1 (shut_bool Try.underlying4 _), (trodAll_cons_mk (Below.trod laidOut (by kernel_rfl) (of_decide_eq_true (by kernel_rfl)) k0 bel lt0) (trodAll_cons_mk (Below.trod laidOut (by kernel_rfl) (of_decide_eq_true (by kernel_rfl)) k1 bel lt1) trodAll_mk0)), rfl, bel.frame _, fun h => by cases h⟩

theorem over : Rows.spliceBackRow.holds Try.pinned (OpenSpec.ofChange Rows.spliceBackSpec) :=
  OpenClaim.holds_of_wide 8 Try.f8 rfl rfl rfl rfl rfl rfl rfl ⟨rfl, rfl, rfl, rfl, rfl⟩ rfl rfl rfl rfl rfl (by kernel_rfl) Try.func8 (by kernel_rfl)
    (of_decide_eq_true (by kernel_rfl)) (by unfold Func.isWrapper; first | (rw [if_pos (by decide +kernel)]; kernel_rfl) | (rw [if_neg (by decide +kernel)]; exact ⟨rfl, rfl⟩))
    (fun os started H enc _ => lifted os started H enc)

theorem proved : Rows.SpliceBackSaid := over
#print axioms proved
end Go.Proofs.Ytegamojidckmcaa.spliceBack
