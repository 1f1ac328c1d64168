/-
  Proved: the law 'scholium/scholiumlaw14.CheckAliases' returns true for every input, and every argument reads as it did before. No conditions.
-/
import Derived.Test.YtcnnbbgfmilblaaRows
import Derived.Test.YtcnnbbgfmilblaaMM
import Derived.Test.YtcnnbbgfmilblaaMH
import Derived.WalkKit
import Derived.ProofKit
import Derived.OpenShut
import Derived.ShutString
import Derived.ChangeOld
import Derived.Below
namespace Go.Proofs.Ytcnnbbgfmilblaa.checkAliases
open Go.ChangeShapes Go.WideShapes Go.ChangeAt Go.RowKit
open Go.ChangeMaps (open_string shut_string)
set_option linter.unusedVariables false

theorem own : ownKnob Try.prog.godebug = none := by kernel_rfl
theorem laidOut : laidOutB Try.prog = true := by kernel_rfl

/-- A slice of integers that came in. -/
def IsRow (k : IntKind) (w : World) (a : Option Addr) (len cap : Nat) (zs : List Int) : Prop :=
  (a = none ∧ len = 0 ∧ cap = 0 ∧ zs = []) ∨
  ∃ x, a = some x ∧ len ≤ cap ∧ cap ≤ maxLen ∧ zs.length = cap ∧ (∀ i, i < zs.length → w.cell? (x.add i) = some (.int k (zs.getD i 0))) ∧ ∀ n ∈ zs, (Lit.int k n).wf = true

set_option linter.unusedSimpArgs false
set_option maxRecDepth 100000
set_option maxHeartbeats 16000000
theorem row_num {w : World} {a : Option Addr} {len cap : Nat} {zs : List Int} (h : IsRow .i64 w a len cap zs) : NumIn w a len ∧ len ≤ cap ∧ cap ≤ 9223372036854775807 := by
  rcases h with ⟨rfl, rfl, rfl, rfl⟩ | ⟨x, rfl, h1, h2, h3, h4, h5⟩
  · exact ⟨fun h => by omega, by omega, by omega⟩
  · unfold maxLen at h2
    refine ⟨fun h0 => ?_, h1, by omega⟩
    have hc0 := h4 0 (by omega)
    obtain ⟨b, off, spot⟩ := x
    have hspot : spot = none := by simpa [Addr.add] using World.cell?_spot hc0
    subst hspot
    refine ⟨b, off, rfl, fun k hk => ?_⟩
    have hc := h4 k (by omega)
    rw [add_plain] at hc
    have hw := h5 _ (List.mem_of_getElem? (getD_at (zs := zs) (k := k) (by omega)))
    exact ⟨_, hc, bounds_i64 hw⟩
theorem walk (a0 : Value) (a1 : Option Addr) (len1 cap1 : Nat) (z1 : List Int) (w : World) (w0 : IsPlan w a0) (w1 : IsRow .i64 w a1 len1 cap1 z1) :
    Calls Try.prog 11 #[a0, .slice a1 len1 cap1] w fun e w' => e = .returned (.bool true) ∧ Below w.heap.size w w' := by
  obtain ⟨A1, n1, c1, A2, n2, c2, rfl, hp⟩ := w0
  obtain ⟨hm, hm1, hm2⟩ := row_num w1
  clear w1
  have HP := Lib.hid (And.intro hp hm)
  clear hp hm
  obtain ⟨W0, hW0⟩ : ∃ W0, w.alloc (.cells #[.slice A1 n1 c1, .slice A2 n2 c2] 25) = W0 := ⟨_, rfl⟩
  have HB0 : Hid (Below w.heap.size w W0) := by show Below _ _ _; rw [← hW0]; exact (Below.refl _ _).alloc (Nat.le_refl _) _
  have pq0 : W0.cell? ⟨w.heap.size, 0, none⟩ = some (.slice A1 n1 c1) := by rw [← hW0, World.cell?_alloc_mark]; rfl
  have pq1 : W0.cell? ⟨w.heap.size, 1, none⟩ = some (.slice A2 n2 c2) := by rw [← hW0, World.cell?_alloc_mark]; rfl
  go_enter Try.func11, Try.ntmps11
  go_wp2_with fail
  clear hW0 pq0 pq1
  refine (cktree_at HP.out.1 HP.out.2 hm1 hm2 HB0.out).mono ?_
  rintro e W1 ⟨g, n, cap, l, E, rfl, hn0, hnl, hnc, hcm, hgl, hge, htx, hbb⟩
  have HB1 := Lib.hid (below_step HB0.out hbb)
  have HF := Lib.hid (And.intro hgl (And.intro (hge.small (by rw [hgl.len]; omega)) (And.intro htx hge)))
  clear hgl hge htx hbb HP HB0 hm1 hm2
  have HC := Lib.hid (compose_at HF.out.1 HF.out.2.2.1 HF.out.2.1 (by omega))
  go_wp2_with fail
  refine HC.out.mono ?_
  clear HC
  intro e W2 h
  rcases h with ⟨hq, rfl, hb⟩ | ⟨hq, A, m, cap2, rfl, hT, hb⟩
  · have HB2 := Lib.hid (below_step HB1.out hb)
    obtain ⟨q1, hq1⟩ : ∃ z, (ckF l).1 = z := ⟨_, rfl⟩
    rw [hq1] at hq ⊢
    have hq2 : (q1 != 0) = true := bne_iff_ne.2 hq
    have hq3 : (q1 == 0) = false := beq_eq_false_iff_ne.2 hq
    clear hb hq1
    go_wp2_with fail
    refine (cwakes_at W2).mono ?_
    rintro e Z1 ⟨rfl, hz1⟩
    have HZ1 := Lib.hid (below_step HB2.out hz1)
    clear hz1
    go_wp2_with fail
    go_ret
    exact ⟨rfl, HZ1.out⟩
  have HT := Lib.hid hT
  have hmle := hT.le
  have hmmx := hT.max
  have hm : ntN l = m := by rw [← cmpL_nt (nbrF l)]; exact hT.len
  have hal := nt_al l
  rw [hm, HF.out.1.len] at hal
  have HM := Lib.hid hm
  obtain ⟨q, hq⟩ : ∃ z, alN l = z := ⟨_, rfl⟩
  rw [hq] at hal
  have HQ := Lib.hid hq
  have HB2 : Hid (Below w.heap.size w W2 ∧ Below W1.heap.size W1 W2) := ⟨below_step HB1.out hb, hb⟩
  clear hT hb hm hq
  go_wp2_with fail
  go_loopw [8, 32] (fun u v V => ∃ t : Nat, t ≤ n ∧ u = .int .i64 ((alN (l.take t) : Nat) : Int) ∧ v = .int .i64 (t : Int) ∧ Hid (Below w.heap.size w V ∧ Below W2.heap.size W2 V)) (fun _ v _ => n - (intOf v).toNat)
  case atStart => exact ⟨0, Nat.zero_le _, by rw [List.take_zero]; rfl, rfl, HB2.out.1, Below.refl _ _⟩
  case round =>
    obtain ⟨t, ht, rfl, rfl, HV⟩ := hrel
    obtain ⟨V, hV⟩ : ∃ z, z = wr := ⟨_, rfl⟩
    subst hV
    by_cases hlt : t < n
    · have dt : (t : Int) < (n : Int) := by omega
      obtain ⟨x, hx⟩ : ∃ z, l[t]? = some z := ⟨l[t]'(by rw [HF.out.1.len]; exact hlt), List.getElem?_eq_getElem _⟩
      obtain ⟨g1, o1, eA, K1, c1, a1, a2, a3, a4, a5⟩ := (HF.out.1.below (below_step HB2.out.2 HV.out.2)).at_ t x hx
      injection eA with eA
      injection eA with e1 e2
      subst e1 e2
      have x0 := a5 0 _ rfl
      rw [Nat.add_zero, Nat.zero_add] at x0
      have hst := alN_take hx
      have hbd := Nat.le_trans (alN_le (l.take t)) (List.length_take_le t l)
      obtain ⟨kd, hkd⟩ : ∃ z, x.kind = z := ⟨_, rfl⟩
      rw [hkd] at x0 hst
      obtain ⟨s, hs⟩ : ∃ z, alN (l.take t) = z := ⟨_, rfl⟩
      rw [hs] at hst hbd
      rw [hs]
      have HS := Lib.hid hst
      clear hst a4 a5 hs hkd hx
      by_cases h4 : kd = 4
      · subst h4
        go_wp2_with fail
        go_roundw
        case rel => exact ⟨t + 1, by omega, by rw [HS.out, if_pos rfl]; go_num, by go_num, HV.out⟩
        case measure => simp [intOf]; omega
      · have h4' : (kd == 4) = false := beq_eq_false_iff_ne.2 h4
        go_wp2_with fail
        go_roundw
        case rel => exact ⟨t + 1, by omega, by rw [HS.out, if_neg h4], by go_num, HV.out⟩
        case measure => simp [intOf]; omega
    · obtain rfl : t = n := by omega
      rw [List.take_of_length_le (by rw [HF.out.1.len]; exact Nat.le_refl _), HQ.out]
      have hsub : (t : Int) - (q : Int) = (m : Int) := by omega
      have hmn : m ≤ t := by omega
      go_wp2_with fail
      go_loopw [10] (fun u V => ∃ i : Nat, i ≤ t ∧ u = .int .i64 (i : Int) ∧ Hid (Below w.heap.size w V ∧ Below W2.heap.size W2 V)) (fun u _ => t - (intOf u).toNat)
      case atStart => exact ⟨0, Nat.zero_le _, rfl, HV.out⟩
      case round =>
        obtain ⟨i, hi, rfl, HE⟩ := hrel
        obtain ⟨V3, hV⟩ : ∃ z, z = wr := ⟨_, rfl⟩
        subst hV
        by_cases hq0 : q = 0
        · subst hq0
          obtain rfl : m = t := by omega
          by_cases hlt2 : i < m
          · have di : (i : Int) < (m : Int) := by omega
            obtain ⟨x, hx⟩ : ∃ z, l[i]? = some z := ⟨l[i]'(by rw [HF.out.1.len]; exact hlt2), List.getElem?_eq_getElem _⟩
            obtain ⟨g1, o1, eA, K1, c1, a1, a2, a3, a4, a5⟩ := (HF.out.1.below (below_step HB2.out.2 HE.out.2)).at_ i x hx
            injection eA with eA
            injection eA with e1 e2
            subst e1 e2
            have x2 := a5 2 _ rfl
            have x4 := a5 4 _ rfl
            have x9 := a5 9 _ rfl
            rw [Nat.zero_add] at x2 x4 x9
            have hy := cmp_same HF.out.2.2.2 HQ.out hx
            obtain ⟨g2, rfl, K2, c2, k1, k2, k3⟩ := (HT.out.below HE.out.2).at_ i _ hy
            have y1 := k3 1 _ rfl
            have y2 := k3 2 _ rfl
            have y3 := k3 3 _ rfl
            simp only at y1 y2 y3 k1 k2
            have hkl2 : x.kids.length ≤ 1000000 := (HF.out.2.1 x (List.mem_of_getElem? hx)).1
            have CS : Hid (∀ U, Below V3.heap.size V3 U → Calls Try.prog 43 #[.slice K2 x.kids.length c2, .slice K1 x.kids.length c1] U (AnsB U (x.kids = x.kids))) := fun U hU => ksameI_at rfl rfl hkl2 hkl2 (k2.below hU) (a4.below hU)
            obtain ⟨tg, htg⟩ : ∃ z, x.tag = z := ⟨_, rfl⟩
            obtain ⟨vl, hvl⟩ : ∃ z, x.value = z := ⟨_, rfl⟩
            obtain ⟨kl, hkl⟩ : ∃ z, x.kids.length = z := ⟨_, rfl⟩
            rw [htg] at x2 y1
            rw [hvl] at x4 y2
            rw [hkl] at x9 y3 CS
            clear hx hy a1 a2 a3 a4 a5 k1 k2 k3 htg hvl hkl hkl2
            go_wp2_with fail
            go_still_tail 35, (by kernel_rfl)
            change wpList _ _ _ _ _ V3.drew
            have HD : Hid (Below w.heap.size w V3.drew ∧ Below W2.heap.size W2 V3.drew) := ⟨HE.out.1.drew, HE.out.2.drew⟩
            have CS2 := Lib.hid (CS.out V3.drew (Below.refl _ _).drew)
            clear x2 x4 x9 y1 y2 y3 CS
            generalize V3.drew = V4 at HD CS2 ⊢
            go_wp2_with fail
            refine CS2.out.mono ?_
            clear CS2
            rintro e V5 ⟨b, rfl, hb, hb5⟩
            obtain rfl : b = true := hb.2 trivial
            have HV5 : Hid (Below w.heap.size w V5 ∧ Below W2.heap.size W2 V5) := ⟨below_step HD.out.1 hb5, below_step HD.out.2 hb5⟩
            clear hb hb5 HD
            go_wp2_with fail
            refine ⟨?_, ?measure⟩
            iterate 50 apply Exists.intro
            refine ⟨?rel, rfl⟩
            case rel => exact ⟨i + 1, by omega, by go_num, HV5.out⟩
            case measure => simp [intOf]; omega
          · obtain rfl : m = i := by omega
            go_wp2_with fail
            go_loopw [101] (fun u V => ∃ j : Nat, j ≤ m ∧ u = .int .i64 (j : Int) ∧ Hid (Below w.heap.size w V ∧ Below W2.heap.size W2 V)) (fun u _ => m - (intOf u).toNat)
            case atStart => exact ⟨0, Nat.zero_le _, rfl, HE.out⟩
            case round =>
              obtain ⟨j, hj, rfl, HV⟩ := hrel
              obtain ⟨V, hV⟩ : ∃ z, z = wr := ⟨_, rfl⟩
              subst hV
              by_cases hlj : j < m
              · have dj : (j : Int) < (m : Int) := by omega
                obtain ⟨x, hx⟩ : ∃ z, (cmpL (nbrF l) l)[j]? = some z := ⟨(cmpL (nbrF l) l)[j]'(by rw [HT.out.len]; exact hlj), List.getElem?_eq_getElem _⟩
                obtain ⟨g1, rfl, K, c, k1, k2, k3⟩ := (HT.out.below HV.out.2).at_ j x hx
                have hkl2 : x.kids.length ≤ 1000000 := cmp_kids_len (fun y hy => (HF.out.2.1 y hy).1) x (List.mem_of_getElem? hx)
                have y3 := k3 3 _ rfl
                obtain ⟨kl, hkl⟩ : ∃ z, x.kids.length = z := ⟨_, rfl⟩
                rw [hkl] at y3 k1 hkl2
                have HX := Lib.hid (And.intro hx (And.intro k2 hkl))
                clear hx k2 hkl k3
                go_wp2_with fail
                go_loopw [110] (fun u V' => ∃ k : Nat, k ≤ kl ∧ u = .int .i64 (k : Int) ∧ Hid (Below V.heap.size V V')) (fun u _ => kl - (intOf u).toNat)
                case atStart => exact ⟨0, Nat.zero_le _, rfl, Below.refl _ _⟩
                case round =>
                  obtain ⟨k, hk, rfl, HU⟩ := hrel
                  obtain ⟨U, hU⟩ : ∃ z, z = wr := ⟨_, rfl⟩
                  subst hU
                  by_cases hlk : k < kl
                  · have dk : (k : Int) < (kl : Int) := by omega
                    obtain ⟨z, hz⟩ : ∃ z, x.kids[k]? = some z := ⟨x.kids[k]'(by rw [HX.out.2.2]; exact hlk), List.getElem?_eq_getElem _⟩
                    obtain ⟨hz0, hz1⟩ := cmp_kid HX.out.1 hz
                    rw [HM.out] at hz1
                    obtain ⟨kg, ko, rfl, hkc⟩ := (HX.out.2.1.below HU.out).addr (by rw [ki_len, HX.out.2.2]; omega)
                    have yk := hkc k _ (ki_at hz)
                    have dz0 : decide (z < 0) = false := decide_eq_false (by omega)
                    have dz0' : ¬ z < 0 := by omega
                    have dzm : decide ((m : Int) ≤ z) = false := decide_eq_false (by omega)
                    have dzm' : ¬ (m : Int) ≤ z := by omega
                    clear hkc hz
                    go_wp2_with fail
                    go_roundw
                    case rel => exact ⟨k + 1, by omega, by go_num, HU.out⟩
                    case measure => simp [intOf]; omega
                  · obtain rfl : k = kl := by omega
                    have HU2 : Hid (Below w.heap.size w U ∧ Below W2.heap.size W2 U) := ⟨below_step HV.out.1 HU.out, below_step HV.out.2 HU.out⟩
                    go_wp2_with fail
                    go_roundw
                    case rel => exact ⟨j + 1, by omega, by go_num, HU2.out⟩
                    case measure => simp [intOf]; omega
              · obtain rfl : j = m := by omega
                go_wp2_with fail
                refine (cwakes_at V).mono ?_
                rintro e Z1 ⟨rfl, hz1⟩
                have HZ1 := Lib.hid (below_step HV.out.1 hz1)
                clear hz1
                go_wp2_with fail
                go_ret
                exact ⟨rfl, HZ1.out⟩
        · have hq0' : ((q : Int) == 0) = false := by rw [beq_eq_false_iff_ne]; omega
          have hq0'' : (q == 0) = false := by rw [beq_eq_false_iff_ne]; omega
          go_wp2_with fail
          go_loopw [101] (fun u V => ∃ j : Nat, j ≤ m ∧ u = .int .i64 (j : Int) ∧ Hid (Below w.heap.size w V ∧ Below W2.heap.size W2 V)) (fun u _ => m - (intOf u).toNat)
          case atStart => exact ⟨0, Nat.zero_le _, rfl, HE.out⟩
          case round =>
            obtain ⟨j, hj, rfl, HV⟩ := hrel
            obtain ⟨V, hV⟩ : ∃ z, z = wr := ⟨_, rfl⟩
            subst hV
            by_cases hlj : j < m
            · have dj : (j : Int) < (m : Int) := by omega
              obtain ⟨x, hx⟩ : ∃ z, (cmpL (nbrF l) l)[j]? = some z := ⟨(cmpL (nbrF l) l)[j]'(by rw [HT.out.len]; exact hlj), List.getElem?_eq_getElem _⟩
              obtain ⟨g1, rfl, K, c, k1, k2, k3⟩ := (HT.out.below HV.out.2).at_ j x hx
              have hkl2 : x.kids.length ≤ 1000000 := cmp_kids_len (fun y hy => (HF.out.2.1 y hy).1) x (List.mem_of_getElem? hx)
              have y3 := k3 3 _ rfl
              obtain ⟨kl, hkl⟩ : ∃ z, x.kids.length = z := ⟨_, rfl⟩
              rw [hkl] at y3 k1 hkl2
              have HX := Lib.hid (And.intro hx (And.intro k2 hkl))
              clear hx k2 hkl k3
              go_wp2_with fail
              go_loopw [110] (fun u V' => ∃ k : Nat, k ≤ kl ∧ u = .int .i64 (k : Int) ∧ Hid (Below V.heap.size V V')) (fun u _ => kl - (intOf u).toNat)
              case atStart => exact ⟨0, Nat.zero_le _, rfl, Below.refl _ _⟩
              case round =>
                obtain ⟨k, hk, rfl, HU⟩ := hrel
                obtain ⟨U, hU⟩ : ∃ z, z = wr := ⟨_, rfl⟩
                subst hU
                by_cases hlk : k < kl
                · have dk : (k : Int) < (kl : Int) := by omega
                  obtain ⟨z, hz⟩ : ∃ z, x.kids[k]? = some z := ⟨x.kids[k]'(by rw [HX.out.2.2]; exact hlk), List.getElem?_eq_getElem _⟩
                  obtain ⟨hz0, hz1⟩ := cmp_kid HX.out.1 hz
                  rw [HM.out] at hz1
                  obtain ⟨kg, ko, rfl, hkc⟩ := (HX.out.2.1.below HU.out).addr (by rw [ki_len, HX.out.2.2]; omega)
                  have yk := hkc k _ (ki_at hz)
                  have dz0 : decide (z < 0) = false := decide_eq_false (by omega)
                  have dz0' : ¬ z < 0 := by omega
                  have dzm : decide ((m : Int) ≤ z) = false := decide_eq_false (by omega)
                  have dzm' : ¬ (m : Int) ≤ z := by omega
                  clear hkc hz
                  go_wp2_with fail
                  go_roundw
                  case rel => exact ⟨k + 1, by omega, by go_num, HU.out⟩
                  case measure => simp [intOf]; omega
                · obtain rfl : k = kl := by omega
                  have HU2 : Hid (Below w.heap.size w U ∧ Below W2.heap.size W2 U) := ⟨below_step HV.out.1 HU.out, below_step HV.out.2 HU.out⟩
                  go_wp2_with fail
                  go_roundw
                  case rel => exact ⟨j + 1, by omega, by go_num, HU2.out⟩
                  case measure => simp [intOf]; omega
            · obtain rfl : j = m := by omega
              go_wp2_with fail
              refine (cwakes_at V).mono ?_
              rintro e Z1 ⟨rfl, hz1⟩
              have HZ1 := Lib.hid (below_step HV.out.1 hz1)
              clear hz1
              go_wp2_with fail
              go_ret
              exact ⟨rfl, HZ1.out⟩


set_option maxRecDepth 100000 in
theorem lifted (os : Os) (started : os.Started) (H : Type) (enc : TypeId × Value → H) :
    ReturnsInHanded {} Try.checked os 11 .any (Rows.checkAliasesSpec.pre6 enc Try.prog Try.f11 Rows.checkAliasesRow.domain false) (Rows.checkAliasesSpec.post enc Try.prog Try.f11 false true false false) := by
  refine returnsInHanded_of_change (C := Try.checked) own started (by kernel_rfl) Try.func11
    (ChangeSpec.witness6 (enc := enc) (C := Try.checked) false ⟨#[], #[.agg #[.slice none 0 0, .slice none 0 0], .slice none 0 0], []⟩ 8 (by kernel_rfl) (by kernel_rfl) (by kernel_rfl) (by kernel_rfl)) ?_
  intro W base args ds gs before hval0 hW hcnd _
  have hval : ∀ (j : Nat) t v, Try.f11.params[j]? = some t → args[j]? = some v → Value.okWide Try.prog W .any base t v := hval0
  have hW' := hW
  obtain ⟨p, q, hA0, hV, rfl, hfz, hnd⟩ := hW
  have hA : DataW.TrodAll enc Try.prog W 0 (fun _ => true) true Try.f11.params.toList args.toList ds p := hA0
  rw [Try.params11] at hA hval
  obtain ⟨v0, vs0, d0, ds0, p0, q0, hargs, rfl, rfl, h0, r0⟩ := trodAll_cons hA
  obtain ⟨v1, vs1, d1, ds1, p1, q1, rfl, rfl, rfl, h1, r1⟩ := trodAll_cons r0
  obtain ⟨rfl, rfl, rfl⟩ := trodAll_nil r1
  obtain rfl : args = #[v0, v1] := by cases args; simp_all
  obtain ⟨rfl, rfl⟩ := trodVars_none hV
  have k0 := h0
  have lt0 : ∀ x ∈ p0, x.block < W.heap.size := by obtain ⟨m, hm⟩ := k0; exact DataW.trod_lt m _ _ _ hm
  have w0 := open_plan (hval 0 25 v0 rfl rfl) h0
  obtain ⟨a1, len1, cap1, rfl⟩ := okWide_slice Try.underlying22 (hval 1 22 v1 rfl rfl)
  have k1 := h1
  have lt1 : ∀ x ∈ p1, x.block < W.heap.size := by obtain ⟨m, hm⟩ := k1; exact DataW.trod_lt m _ _ _ hm
  obtain ⟨z1, w1⟩ : ∃ zs, IsRow .i64 W a1 len1 cap1 zs := by
    obtain ⟨fuel, hf⟩ := h1
    rcases open_ints Try.underlying22 Try.underlying3 (by kernel_rfl) hf with ⟨hcs, _⟩ | ⟨x, l, c, zs, hcs, _, hl, hm, hz, _, hcell, hwz⟩
    · simp [Value.cells] at hcs
      obtain ⟨rfl, rfl, rfl⟩ := hcs
      exact ⟨[], .inl ⟨rfl, rfl, rfl, rfl⟩⟩
    · simp [Value.cells] at hcs
      obtain ⟨rfl, rfl, rfl⟩ := hcs
      exact ⟨zs, .inr ⟨_, rfl, hl, hm, by simpa using hz, hcell, hwz⟩⟩
  clear hA0 hval0
  refine (walk v0 a1 len1 cap1 z1 W w0 w1).mono fun e W' ⟨he, bel⟩ => ?_
  subst he
  exact ⟨_, rfl, _, _, _, [], _, [], hW', trodAll_mk1 (shut_bool Try.underlying4 _), (trodAll_cons_mk (Below.trod laidOut (by kernel_rfl) (of_decide_eq_true (by kernel_rfl)) k0 bel lt0) (trodAll_cons_mk (Below.trod laidOut (by kernel_rfl) (of_decide_eq_true (by kernel_rfl)) k1 bel lt1) trodAll_mk0)), rfl, bel.frame _, fun h => by cases h⟩

theorem over : Rows.checkAliasesRow.holds Try.pinned (OpenSpec.ofChange Rows.checkAliasesSpec) :=
  OpenClaim.holds_of_wide 11 Try.f11 rfl rfl rfl rfl rfl rfl rfl ⟨rfl, rfl, rfl, rfl, rfl⟩ rfl rfl rfl rfl rfl (by kernel_rfl) Try.func11 (by kernel_rfl)
    (of_decide_eq_true (by kernel_rfl)) (by unfold Func.isWrapper; first | (rw [if_pos (by decide +kernel)]; kernel_rfl) | (rw [if_neg (by decide +kernel)]; exact ⟨rfl, rfl⟩))
    (fun os started H enc _ => lifted os started H enc)

theorem proved : Rows.CheckAliasesSaid := over
#print axioms proved
end Go.Proofs.Ytcnnbbgfmilblaa.checkAliases
